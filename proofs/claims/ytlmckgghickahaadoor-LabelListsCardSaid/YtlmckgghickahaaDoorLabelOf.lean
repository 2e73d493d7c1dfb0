/- label.Of and the document's own. -/
import Derived.Test.YtlmckgghickahaaDoorLabel
namespace Go.Proofs.YtlmckgghickahaaDoor
open Go.RowKit
namespace LabelD
open LabelM

/-- The label of a list of numbers; none: one is no principal. -/
def ofGo : List Int → Nat → Option Nat
  | [], acc => some acc
  | p :: r, acc => if p < 0 ∨ 64 ≤ p then none else ofGo r (acc ||| 2 ^ p.toNat)
def ofL (zs : List Int) : Option Nat := ofGo zs 0
theorem ofGo_append (a b : List Int) : ∀ acc, ofGo (a ++ b) acc = (ofGo a acc).bind (ofGo b) := by
  induction a with
  | nil => intro acc; rfl
  | cons p r ih =>
    intro acc
    simp only [List.cons_append, ofGo]
    split
    · rfl
    · exact ih _
theorem ofL_snoc (a : List Int) (p : Int) {l : Nat} (h : ofL a = some l) : ofL (a ++ [p]) = if p < 0 ∨ 64 ≤ p then none else some (l ||| 2 ^ p.toNat) := by
  unfold ofL at h ⊢
  rw [ofGo_append, h]
  rfl
theorem ofL_bad (a b : List Int) (p : Int) (hp : p < 0 ∨ 64 ≤ p) : ofL (a ++ p :: b) = none := by
  unfold ofL
  rw [ofGo_append]
  cases ofGo a 0 with
  | none => rfl
  | some l => simp [ofGo, hp]
theorem or_pow_i (x : Nat) {p : Int} (hx : x < M64) (h0 : 0 ≤ p) (h1 : p < 64) : bits .or .u64 (x : Int) (IntKind.u64.wrap (2 ^ p.toNat)) = ((x ||| 2 ^ p.toNat : Nat) : Int) := or_pow x hx (by omega)
theorem or_pow_lt {x : Nat} {p : Int} (hx : x < M64) (h0 : 0 ≤ p) (h1 : p < 64) : x ||| 2 ^ p.toNat < M64 := or_lt hx (by rw [m64]; exact Nat.pow_lt_pow_right (by decide) (by omega))
/-- What Of answers. -/
def ofV (k : IntKind) (zs : List Int) : Value :=
  match ofL zs with
  | some l => .tuple #[.int .u64 (l : Int), .int k 0]
  | none => .tuple #[.int .u64 0, .int k 1]
theorem ofV_none {k : IntKind} {zs : List Int} (h : ofL zs = none) : Ending.returned (.tuple #[.int .u64 0, .int k 1]) = .returned (ofV k zs) := by unfold ofV; rw [h]
theorem ofV_some {k : IntKind} {zs : List Int} {l : Nat} (h : ofL zs = some l) : Ending.returned (.tuple #[.int .u64 (l : Int), .int k 0]) = .returned (ofV k zs) := by unfold ofV; rw [h]

set_option maxHeartbeats 1000000 in
theorem of_any (bk o c : Nat) (zs : List Int) (hlen : zs.length ≤ 9223372036854775807) (w : World) (hc : ∀ (j : Nat) x, zs[j]? = some x → w.cell? ⟨bk, o + j, none⟩ = some (.int .i64 x)) :
    Calls Tryd.prog 21 #[.slice (some ⟨bk, o, none⟩) zs.length c] w fun e w' => e = .returned (ofV .i64 zs) ∧ w = w' := by
  have HC := Lib.hid hc
  clear hc
  go_enter Tryd.func21, Tryd.ntmps21
  go_wp2
  go_loop [4, 9] (fun av i => ∃ (k : Nat) (l : Nat), i = .int .i64 k ∧ k ≤ zs.length ∧ av = .int .u64 ((l : Nat) : Int) ∧ l < M64 ∧ ofL (zs.take k) = some l) (fun _ i => zs.length - (intOf i).toNat)
  case atStart => exact ⟨0, 0, rfl, by omega, rfl, by decide, rfl⟩
  case round =>
    obtain ⟨k, l, rfl, hk, rfl, hl, hof⟩ := hrel
    by_cases hlt : k < zs.length
    · have hcell := HC.out k zs[k] (List.getElem?_eq_getElem hlt)
      have hsn := List.take_succ_eq_append_getElem hlt
      have hdr : zs = zs.take k ++ zs[k] :: zs.drop (k + 1) := by rw [List.getElem_cons_drop, List.take_append_drop]
      obtain ⟨x, hx⟩ : ∃ x, zs[k] = x := ⟨_, rfl⟩
      rw [hx] at hcell hsn hdr
      have Hdr := Lib.hid hdr
      have Hsn := Lib.hid hsn
      have Hof := Lib.hid hof
      clear hx hdr hsn hof
      by_cases hbad : x < 0 ∨ 64 ≤ x
      · have hz : ofL zs = none := by rw [Hdr.out]; exact ofL_bad _ _ _ hbad
        have Hz := Lib.hid hz
        clear hz
        rcases hbad with hbad | hbad
        all_goals
          go_wp2
          go_ret2
          exact ⟨ofV_none Hz.out, rfl⟩
      · obtain ⟨h0, h1⟩ : 0 ≤ x ∧ x < 64 := by omega
        have Hor := Lib.hid (or_pow_i l hl h0 h1)
        have hl2 := or_pow_lt hl h0 h1
        have Hnx : Hid (ofL (zs.take (k + 1)) = some (l ||| 2 ^ x.toNat)) := Lib.hid (by rw [Hsn.out, ofL_snoc _ _ Hof.out, if_neg hbad])
        clear hbad
        go_wp2
        go_round
        case rel => exact ⟨k + 1, _, by go_num, by omega, by rw [Hor.out], hl2, Hnx.out⟩
        case measure => simp [intOf]; omega
    · obtain rfl : k = zs.length := by omega
      rw [List.take_length] at hof
      have Hof := Lib.hid hof
      clear hof
      go_wp2
      go_ret2
      exact ⟨ofV_some Hof.out, rfl⟩

set_option maxHeartbeats 1000000 in
theorem refOf_any (bk o c : Nat) (zs : List Int) (hlen : zs.length ≤ 9223372036854775807) (w : World) (hc : ∀ (j : Nat) x, zs[j]? = some x → w.cell? ⟨bk, o + j, none⟩ = some (.int .i64 x)) :
    Calls Tryd.prog 22 #[.slice (some ⟨bk, o, none⟩) zs.length c] w fun e w' => e = .returned (ofV .i64 zs) ∧ w = w' := by
  have HC := Lib.hid hc
  clear hc
  go_enter Tryd.func22, Tryd.ntmps22
  go_wp2
  go_loop [4, 9] (fun av i => ∃ (k : Nat) (l : Nat), i = .int .i64 k ∧ k ≤ zs.length ∧ av = .int .u64 ((l : Nat) : Int) ∧ l < M64 ∧ ofL (zs.take k) = some l) (fun _ i => zs.length - (intOf i).toNat)
  case atStart => exact ⟨0, 0, rfl, by omega, rfl, by decide, rfl⟩
  case round =>
    obtain ⟨k, l, rfl, hk, rfl, hl, hof⟩ := hrel
    by_cases hlt : k < zs.length
    · have hcell := HC.out k zs[k] (List.getElem?_eq_getElem hlt)
      have hsn := List.take_succ_eq_append_getElem hlt
      have hdr : zs = zs.take k ++ zs[k] :: zs.drop (k + 1) := by rw [List.getElem_cons_drop, List.take_append_drop]
      obtain ⟨x, hx⟩ : ∃ x, zs[k] = x := ⟨_, rfl⟩
      rw [hx] at hcell hsn hdr
      have Hdr := Lib.hid hdr
      have Hsn := Lib.hid hsn
      have Hof := Lib.hid hof
      clear hx hdr hsn hof
      by_cases hbad : x < 0 ∨ 64 ≤ x
      · have hz : ofL zs = none := by rw [Hdr.out]; exact ofL_bad _ _ _ hbad
        have Hz := Lib.hid hz
        clear hz
        rcases hbad with hbad | hbad
        all_goals
          go_wp2
          go_ret2
          exact ⟨ofV_none Hz.out, rfl⟩
      · obtain ⟨h0, h1⟩ : 0 ≤ x ∧ x < 64 := by omega
        have Hor := Lib.hid (or_pow_i l hl h0 h1)
        have hl2 := or_pow_lt hl h0 h1
        have Hnx : Hid (ofL (zs.take (k + 1)) = some (l ||| 2 ^ x.toNat)) := Lib.hid (by rw [Hsn.out, ofL_snoc _ _ Hof.out, if_neg hbad])
        clear hbad
        go_wp2
        go_round
        case rel => exact ⟨k + 1, _, by go_num, by omega, by rw [Hor.out], hl2, Hnx.out⟩
        case measure => simp [intOf]; omega
    · obtain rfl : k = zs.length := by omega
      rw [List.take_length] at hof
      have Hof := Lib.hid hof
      clear hof
      go_wp2
      go_ret2
      exact ⟨ofV_some Hof.out, rfl⟩
end LabelD
end Go.Proofs.YtlmckgghickahaaDoor
