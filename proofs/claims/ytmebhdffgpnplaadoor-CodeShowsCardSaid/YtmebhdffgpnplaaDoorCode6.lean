/- A function's words as a text. -/
import Derived.Test.YtmebhdffgpnplaaDoorCode5
import Derived.Test.YtmebhdffgpnplaaDoorInstrShw
import Derived.Test.YtmebhdffgpnplaaDoorBuild
import Derived.Test.YtmebhdffgpnplaaDoorProtoIn
namespace Go.Proofs.YtmebhdffgpnplaaDoor
open Go.RowKit ObjM
namespace CodeD
open InstrM InstrD FlowD

/-- A word's text. -/
def txtW (x : Int) : List UInt8 := if wOf x (rF x) = (x, 0) then showV (x % 256) (rF x).a (rF x).b (rF x).c (rF x).d else [63]
def lineW (k : Nat) (x : Int) : List UInt8 := Lib.itoa (k : Int) ++ [58, 32] ++ txtW x ++ [10]
/-- The first k words' text. -/
def showP (ws : List Nat) (k : Nat) : List UInt8 := ((List.range k).map fun i => lineW i (ws.getD i 0 : Nat)).flatten
theorem showP_next (ws : List Nat) (k : Nat) : showP ws (k + 1) = showP ws k ++ lineW k (ws.getD k 0 : Nat) := by
  unfold showP
  rw [List.range_succ, List.map_append, List.flatten_append]
  simp
theorem rF_range {x : Int} (h0 : 0 ≤ x) (h1 : x ≤ 4294967295) : (0 ≤ (rF x).a ∧ (rF x).a ≤ 255) ∧ (0 ≤ (rF x).b ∧ (rF x).b ≤ 255) ∧ (0 ≤ (rF x).c ∧ (rF x).c ≤ 255) ∧ (-32768 ≤ (rF x).d ∧ (rF x).d ≤ 65535) := by
  unfold rF
  split
  · simp only
    unfold s16
    have : 0 ≤ x / 65536 ∧ x / 65536 ≤ 65535 := by omega
    refine ⟨by omega, by omega, by omega, ?_⟩
    first | omega | (split <;> omega)
  · simp only
    omega
theorem fld_range {x : Int} (h0 : 0 ≤ x) (h1 : x ≤ 4294967295) (l : Int) : -9223372036854775808 ≤ fld (rF x).a (rF x).b (rF x).c (rF x).d l ∧ fld (rF x).a (rF x).b (rF x).c (rF x).d l ≤ 9223372036854775807 := by
  have := rF_range h0 h1
  unfold fld
  (repeat' split) <;> omega
theorem fields_len {a b c d : Int} (h : ∀ l, -9223372036854775808 ≤ fld a b c d l ∧ fld a b c d l ≤ 9223372036854775807) : ∀ l : List UInt8, (fieldsT a b c d l).length ≤ 22 * l.length
  | [] => by simp [fieldsT]
  | x :: r => by
    have h1 := fields_len h r
    have h2 := Lib.itoa_length_le _ (h x.toNat).1 (h x.toNat).2
    simp only [fieldsT, List.length_cons, List.length_append]
    omega
theorem txt_len {x : Int} (h0 : 0 ≤ x) (h1 : x ≤ 4294967295) : (txtW x).length ≤ 74 := by
  unfold txtW
  split
  · unfold showV
    split
    · have h2 := fields_len (fld_range h0 h1) (formOf (x % 256))
      have h3 := form_len (x % 256)
      have h4 := name_len (x % 256)
      simp only [List.length_append]
      omega
    · decide
  · decide
theorem line_len {k : Nat} (hk : k ≤ 1000000) {x : Int} (h0 : 0 ≤ x) (h1 : x ≤ 4294967295) : (lineW k x).length ≤ 98 := by
  have h2 := txt_len h0 h1
  have h3 := Lib.itoa_length_le (k : Int) (by omega) (by omega)
  unfold lineW
  simp only [List.length_append, List.length_cons, List.length_nil]
  omega
theorem showP_len {ws : List Nat} (h : ∀ x ∈ ws, x ≤ 4294967295) : ∀ k, k ≤ 1000000 → (showP ws k).length ≤ 98 * k
  | 0, _ => by simp [showP]
  | k + 1, hk => by
    have h1 := showP_len h k (by omega)
    have hx : ws.getD k 0 ≤ 4294967295 := by
      rw [List.getD_eq_getElem?_getD]
      cases e : ws[k]? with
      | none => simp
      | some y => exact h y (List.mem_of_getElem? e)
    have h2 := line_len (k := k) (by omega) (x := (ws.getD k 0 : Nat)) (by omega) (by omega)
    rw [showP_next, List.length_append]
    omega
theorem decodeP (x : Int) (h0 : 0 ≤ x) (h1 : x ≤ 4294967295) (W : World) (hT : Tabs W) : Calls Tryd.prog 21 #[.int .u32 x] W fun e w' => e = .returned (answer x (rF x) (wOf x (rF x))) ∧ Below W.heap.size W w' := by
  rw [← answer_eq h0 h1]
  exact decode_any x h0 h1 W hT
/-- What a word decodes to, and its text. -/
theorem word_cases (x : Int) : (∃ op a b c d, answer x (rF x) (wOf x (rF x)) = .tuple #[.agg #[.int .i64 op, .int .i64 a, .int .i64 b, .int .i64 c, .int .i64 d], .int .i64 0] ∧ txtW x = showV op a b c d ∧ op = x % 256 ∧ a = (rF x).a ∧ b = (rF x).b ∧ c = (rF x).c ∧ d = (rF x).d) ∨ (answer x (rF x) (wOf x (rF x)) = .tuple #[.agg #[.int .i64 0, .int .i64 0, .int .i64 0, .int .i64 0, .int .i64 0], .int .i64 1] ∧ txtW x = [63]) := by
  unfold answer txtW
  by_cases h : wOf x (rF x) = (x, 0)
  · rw [if_pos h, if_pos h]
    exact .inl ⟨_, _, _, _, _, rfl, rfl, rfl, rfl, rfl, rfl, rfl⟩
  · rw [if_neg h, if_neg h]
    exact .inr ⟨rfl, rfl⟩
theorem getD_some {ws : List Nat} {k : Nat} (h : k < ws.length) : ws[k]? = some (ws.getD k 0) := by
  rw [List.getD_eq_getElem?_getD, List.getElem?_eq_getElem h]
  rfl
theorem app_l (a b : ByteArray) : (a ++ b).data.toList = a.data.toList ++ b.data.toList := by simp
theorem line_bytes {k : Nat} {x : Int} {A T : ByteArray} (hA : A = ⟨(Lib.itoa (k : Int)).toArray⟩) (hT : T = ⟨(txtW x).toArray⟩) : (A ++ ⟨#[58, 32]⟩ ++ T ++ ⟨#[10]⟩).data.toList = lineW k x := by
  rw [app_l, app_l, app_l, hA, hT]
  rfl
theorem bytes_app (a b : List UInt8) : Lib.byteCells (a ++ b) = Lib.byteCells a ++ Lib.byteCells b := by simp [Lib.byteCells]
/-- One line more. -/
theorem write_line (w wr : World) (B : Nat) (xs ln : List UInt8) (s : ByteArray) (hs : s.data.toList = ln) (hlen : xs.length ≤ 100000000) (hls : s.size ≤ 98) (hBr : Below w.heap.size w wr) (hI : Lib.IsBuilder 63 5 B B (Lib.byteCells xs) wr) (hsz : B < wr.heap.size) (hwB : w.heap.size ≤ B) (W : World) (hW : Below wr.heap.size wr W) :
    Calls Tryd.prog 23 #[.pointer (some ⟨B, 0, none⟩), .string s] W fun e w' => e = .returned (.tuple #[.int .i64 s.size, .nilIface]) ∧ Hid (Below w.heap.size w w' ∧ Lib.IsBuilder 63 5 B B (Lib.byteCells (xs ++ ln)) w' ∧ B < w'.heap.size) := by
  have hl2 : (Lib.byteCells xs).length + s.size ≤ 140737488355328 := by
    rw [Lib.byteCells_length]
    omega
  refine (writeString_any B B _ s W (builder_below hI hW) hl2 (Nat.le_trans (Nat.le_of_lt hsz) hW.size)).mono ?_
  rintro e w' ⟨he, h1, h2⟩
  refine ⟨he, Lib.hid ⟨(hBr.trans (hW.mono hBr.size)).trans (h2.mono hwB), ?_, Nat.lt_of_lt_of_le hsz (Nat.le_trans hW.size h2.size)⟩⟩
  rw [bytes_app, ← hs]
  exact .inr h1
end CodeD
end Go.Proofs.YtmebhdffgpnplaaDoor
