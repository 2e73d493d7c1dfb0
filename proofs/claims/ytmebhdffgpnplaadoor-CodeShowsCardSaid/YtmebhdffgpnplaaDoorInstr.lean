/- The contracts of package instr's small functions. -/
import Derived.Test.YtmebhdffgpnplaaDoorTables
import Derived.Test.YtmebhdffgpnplaaDoorInstrMath
import Derived.WalkSpells
import Derived.Lib.Hide
import Derived.Lib.OthersKept
import Derived.Laws.RangeAny
import Derived.WalkSmall
import Derived.Lib.Strings
import Derived.WalkLawsBesides
namespace Go.Proofs.YtmebhdffgpnplaaDoor
open Go.RowKit
namespace InstrD
open InstrM

theorem ret_int {k : IntKind} {a b : Int} (h : a = b) : Ending.returned (.int k a) = .returned (.int k b) := by rw [h]
theorem ret_E {E : Int × Int} {x y : Int} (h : E = (x, y)) : Ending.returned (.tuple #[.int .u32 x, .int .i64 y]) = .returned (.tuple #[.int .u32 E.1, .int .i64 E.2]) := by rw [h]
theorem ret_bool {a b : Bool} (h : a = b) : Ending.returned (.bool a) = .returned (.bool b) := by rw [h]

set_option maxHeartbeats 400000 in
theorem field_any (op a b c d l : Int) (w : World) :
    Calls Tryd.prog 51 #[.agg #[.int .i64 op, .int .i64 a, .int .i64 b, .int .i64 c, .int .i64 d], .int .i32 l] w fun e w' => e = .returned (.int .i64 (fld a b c d l)) ∧ Below w.heap.size w w' := by
  go_enter Tryd.func51, Tryd.ntmps51
  go_wp2
  all_goals
    go_ret
    exact ⟨ret_int (by simp only [beq_iff_eq, beq_eq_false_iff_ne, ne_eq] at *; unfold fld; (repeat' split) <;> first | rfl | omega), (Below.refl _ _).alloc (Nat.le_refl _) _⟩

set_option maxHeartbeats 400000 in
theorem shift_any (l : Int) (w : World) :
    Calls Tryd.prog 47 #[.int .i32 l] w fun e w' => e = .returned (.int .i64 (shiftV l)) ∧ w = w' := by
  go_enter Tryd.func47, Tryd.ntmps47
  go_wp2
  all_goals
    go_ret
    exact ⟨ret_int (by simp only [beq_iff_eq, beq_eq_false_iff_ne, ne_eq] at *; unfold shiftV; (repeat' split) <;> first | rfl | omega), by trivial⟩

set_option maxHeartbeats 400000 in
theorem fits_any (l n : Int) (w : World) :
    Calls Tryd.prog 71 #[.int .i32 l, .int .i64 n] w fun e w' => e = .returned (.bool (fitsB l n)) ∧ w = w' := by
  by_cases h : l = 68
  · subst h
    go_enter Tryd.func71, Tryd.ntmps71
    go_wp2
    all_goals
      go_ret
      exact ⟨ret_bool (by unfold fitsB; simp [*] <;> omega), by trivial⟩
  · have hl : (l == 68) = false := by simpa using h
    go_enter Tryd.func71, Tryd.ntmps71
    go_wp2
    all_goals
      go_ret
      exact ⟨ret_bool (by unfold fitsB; simp [*] <;> omega), by trivial⟩

/-- Where a field lies in an instruction's memory. -/
def putO (l : Int) : Nat := if l = 65 then 1 else if l = 66 then 2 else if l = 67 then 3 else 4
/-- Block B holds an instruction. -/
def InsAt (w : World) (B : Nat) (op a b c d : Int) : Prop := w.heap[B]? = some (.cells #[.int .i64 op, .int .i64 a, .int .i64 b, .int .i64 c, .int .i64 d] 65 (0, 0))
theorem block_cell {w : World} {B : Nat} {cs : Array Value} {t : TypeId} (h : w.heap[B]? = some (.cells cs t (0, 0))) (i : Nat) : w.cell? ⟨B, i, none⟩ = cs[i]? := by simp [World.cell?, h]
theorem block_free {w : World} {B : Nat} {cs : Array Value} {t : TypeId} (h : w.heap[B]? = some (.cells cs t (0, 0))) (i : Nat) : w.frozen? ⟨B, i, none⟩ = false := by simp [World.frozen?, h]
theorem block_set {w : World} {B : Nat} {cs : Array Value} {t : TypeId} (h : w.heap[B]? = some (.cells cs t (0, 0))) (i : Nat) (v : Value) : (w.setCell ⟨B, i, none⟩ v).heap[B]? = some (.cells (cs.setIfInBounds i v) t (0, 0)) := by
  simp only [World.setCell, Array.getElem?_modify, if_true, h, Option.map_some]
  rfl
theorem alloc_new (w : World) (o : Obj) : (w.alloc o).heap[w.heap.size]? = some o := by show (w.heap.push o)[w.heap.size]? = _; simp
theorem InsAt.put {w : World} {B : Nat} {op a b c d : Int} (h : InsAt w B op a b c d) (l n : Int) :
    InsAt (w.setCell ⟨B, putO l, none⟩ (.int .i64 n)) B op (if l = 65 then n else a) (if l = 66 then n else b) (if l = 67 then n else c) (if l = 65 ∨ l = 66 ∨ l = 67 then d else n) := by
  have h1 := block_set h (putO l) (.int .i64 n)
  unfold InsAt
  rw [h1]
  unfold putO
  by_cases h1 : l = 65
  · subst h1; rfl
  · by_cases h2 : l = 66
    · subst h2; rfl
    · by_cases h3 : l = 67
      · subst h3; rfl
      · simp [h1, h2, h3]

set_option maxHeartbeats 400000 in
theorem put_any (B : Nat) (op a b c d l n : Int) (w : World) (h : InsAt w B op a b c d) :
    Calls Tryd.prog 48 #[.pointer (some ⟨B, 0, none⟩), .int .i32 l, .int .i64 n] w fun e w' => e = .returned (.tuple #[]) ∧ w.setCell ⟨B, putO l, none⟩ (.int .i64 n) = w' := by
  have c1 := block_cell h 1
  have c2 := block_cell h 2
  have c3 := block_cell h 3
  have c4 := block_cell h 4
  have f1 := block_free h 1
  have f2 := block_free h 2
  have f3 := block_free h 3
  have f4 := block_free h 4
  clear h
  simp only [List.getElem?_toArray, List.getElem?_cons_zero, List.getElem?_cons_succ] at c1 c2 c3 c4
  by_cases h1 : l = 65
  · subst h1
    go_enter Tryd.func48, Tryd.ntmps48
    go_wp2
    go_end0
    exact ⟨rfl, rfl⟩
  · by_cases h2 : l = 66
    · subst h2
      go_enter Tryd.func48, Tryd.ntmps48
      go_wp2
      go_end0
      exact ⟨rfl, rfl⟩
    · by_cases h3 : l = 67
      · subst h3
        go_enter Tryd.func48, Tryd.ntmps48
        go_wp2
        go_end0
        exact ⟨rfl, rfl⟩
      · have hp := Lib.hid (show putO l = 4 by unfold putO; rw [if_neg h1, if_neg h2, if_neg h3])
        go_enter Tryd.func48, Tryd.ntmps48
        go_wp2
        go_end0
        exact ⟨rfl, by rw [hp.out]⟩

/-- The tables of names and fields as the program's text lays them. -/
structure Tabs (w : World) : Prop where
  z0 : 0 < w.heap.size
  z1 : 1 < w.heap.size
  lo : ∀ k, k < 33 → w.cell? ⟨0, k * 2, none⟩ = some (.string ⟨(nameL k).toArray⟩) ∧ w.cell? ⟨0, k * 2 + 1, none⟩ = some (.string ⟨(formL k).toArray⟩)
  hi : ∀ k, 1 ≤ k → k < 31 → w.cell? ⟨1, k * 2, none⟩ = some (.string ⟨(nameL (k + 32)).toArray⟩) ∧ w.cell? ⟨1, k * 2 + 1, none⟩ = some (.string ⟨(formL (k + 32)).toArray⟩)
theorem Tabs.below {w w' : World} (h : Tabs w) (hb : Below w.heap.size w w') : Tabs w' where
  z0 := Nat.lt_of_lt_of_le h.z0 hb.size
  z1 := Nat.lt_of_lt_of_le h.z1 hb.size
  lo := fun k hk => ⟨(hb.cell (p := ⟨_, _, none⟩) h.z0).trans (h.lo k hk).1, (hb.cell (p := ⟨_, _, none⟩) h.z0).trans (h.lo k hk).2⟩
  hi := fun k h1 hk => ⟨(hb.cell (p := ⟨_, _, none⟩) h.z1).trans (h.hi k h1 hk).1, (hb.cell (p := ⟨_, _, none⟩) h.z1).trans (h.hi k h1 hk).2⟩

theorem ret_form {op : Int} {x y : List UInt8} (h : x = nameOf op) (g : y = formOf op) : (Value.agg #[.string ⟨x.toArray⟩, .string ⟨y.toArray⟩]) = .agg #[.string ⟨(nameOf op).toArray⟩, .string ⟨(formOf op).toArray⟩] := by rw [h, g]

set_option maxHeartbeats 400000 in
set_option maxRecDepth 100000 in
theorem formOf_any (op : Int) (o0 : -9223372036854775808 ≤ op) (o1 : op ≤ 9223372036854775807) (w : World) (hT : Tabs w) :
    Calls Tryd.prog 70 #[.int .i64 op] w fun e w' => e = .returned (.agg #[.string ⟨(nameOf op).toArray⟩, .string ⟨(formOf op).toArray⟩]) ∧ Below w.heap.size w w' := by
  have z0 := hT.z0
  have z1 := hT.z1
  by_cases h0 : 0 ≤ op
  · obtain ⟨k, rfl⟩ := Int.eq_ofNat_of_zero_le h0
    have e1 := Lib.hid (show nameL k = nameOf k by unfold nameOf; rw [if_pos h0]; rfl)
    have e2 := Lib.hid (show formL k = formOf k by unfold formOf; rw [if_pos h0]; rfl)
    by_cases h33 : k < 33
    · obtain ⟨c0, c1⟩ := hT.lo k h33
      rw [e1.out, e2.out] at *
      go_enter Tryd.func70, Tryd.ntmps70
      go_wp2
      exact bodyPost_ret (v := .agg #[.string ⟨(nameOf k).toArray⟩, .string ⟨(formOf k).toArray⟩]) (by simp [results, Tryd.results70, go_sem]) rfl ⟨rfl, (Below.refl _ _).alloc (Nat.le_refl _) _⟩
    · by_cases h63 : k < 63
      · obtain ⟨j, rfl⟩ : ∃ j, k = j + 32 := ⟨k - 32, by omega⟩
        obtain ⟨c0, c1⟩ := hT.hi j (by omega) (by omega)
        have hj : j < 31 := by omega
        have hj2 : 1 ≤ j := by omega
        rw [e1.out] at c0
        rw [e2.out] at c1
        clear e1 e2 o0 o1 h0 h33 h63
        go_enter Tryd.func70, Tryd.ntmps70
        go_wp2
        exact bodyPost_ret (v := .agg #[.string ⟨(nameOf ((j + 32 : Nat) : Int)).toArray⟩, .string ⟨(formOf ((j + 32 : Nat) : Int)).toArray⟩]) (by simp [results, Tryd.results70, go_sem]) rfl ⟨rfl, (Below.refl _ _).alloc (Nat.le_refl _) _⟩
      · have e3 := Lib.hid (show nameOf k = [] by rw [← e1.out, nameL_big (by omega)])
        have e4 := Lib.hid (show formOf k = [] by rw [← e2.out, formL_big (by omega)])
        clear e1 e2
        go_enter Tryd.func70, Tryd.ntmps70
        go_wp2
        exact bodyPost_ret (v := .agg #[.string ⟨#[]⟩, .string ⟨#[]⟩]) (by simp [results, Tryd.results70, go_sem]) rfl ⟨by rw [e3.out, e4.out], (Below.refl _ _).alloc (Nat.le_refl _) _⟩
  · have e3 := Lib.hid (show nameOf op = [] by unfold nameOf; rw [if_neg h0])
    have e4 := Lib.hid (show formOf op = [] by unfold InstrM.formOf; rw [if_neg h0])
    go_enter Tryd.func70, Tryd.ntmps70
    go_wp2
    exact bodyPost_ret (v := .agg #[.string ⟨#[]⟩, .string ⟨#[]⟩]) (by simp [results, Tryd.results70, go_sem]) rfl ⟨by rw [e3.out, e4.out], (Below.refl _ _).alloc (Nat.le_refl _) _⟩

set_option maxHeartbeats 400000 in
theorem form_any (op : Int) (o0 : -9223372036854775808 ≤ op) (o1 : op ≤ 9223372036854775807) (w : World) (hT : Tabs w) :
    Calls Tryd.prog 46 #[.int .i64 op] w fun e w' => e = .returned (.string ⟨(formOf op).toArray⟩) ∧ Below w.heap.size w w' := by
  have HT := Lib.hid hT
  clear hT
  have hf : ∀ (N M : ByteArray) (w : World), (Instr.field 119 (.agg #[.string N, .string M]) 1).run Tryd.prog w = .ok (.string M) w := fun N M w => by kernel_rfl
  go_enter Tryd.func46, Tryd.ntmps46
  go_wp2_with fail
  refine (formOf_any _ o0 o1 _ HT.out).mono ?_
  rintro e w1 ⟨rfl, hb⟩
  go_wp2
  go_ret
  exact ⟨rfl, hb⟩

set_option maxHeartbeats 400000 in
theorem name_any (op : Int) (o0 : -9223372036854775808 ≤ op) (o1 : op ≤ 9223372036854775807) (w : World) (hT : Tabs w) :
    Calls Tryd.prog 50 #[.int .i64 op] w fun e w' => e = .returned (.string ⟨(nameOf op).toArray⟩) ∧ Below w.heap.size w w' := by
  have HT := Lib.hid hT
  clear hT
  have hf : ∀ (N M : ByteArray) (w : World), (Instr.field 119 (.agg #[.string N, .string M]) 0).run Tryd.prog w = .ok (.string N) w := fun N M w => by kernel_rfl
  go_enter Tryd.func50, Tryd.ntmps50
  go_wp2_with fail
  refine (formOf_any _ o0 o1 _ HT.out).mono ?_
  rintro e w1 ⟨rfl, hb⟩
  go_wp2
  go_ret
  exact ⟨rfl, hb⟩


set_option maxHeartbeats 1000000 in
set_option maxRecDepth 100000 in
theorem encode_any (op a b c d : Int) (o0 : -9223372036854775808 ≤ op) (o1 : op ≤ 9223372036854775807) (w : World) (hT : Tabs w) (hne : (formOf op).isEmpty = false) :
    Calls Tryd.prog 49 #[.agg #[.int .i64 op, .int .i64 a, .int .i64 b, .int .i64 c, .int .i64 d]] w fun e w' => e = .returned (.tuple #[.int .u32 (encV op a b c d).1, .int .i64 (encV op a b c d).2]) ∧ Below w.heap.size w w' := by
  obtain ⟨L, hL⟩ : ∃ L, formOf op = L := ⟨_, rfl⟩
  have hlet := letters_of op
  rw [hL] at hlet
  obtain ⟨E, hE⟩ : ∃ E, encV op a b c d = E := ⟨_, rfl⟩
  have hE2 : encF a b c d L (op % 4294967296) 0 0 0 0 = E := by
    rw [← hE]
    unfold encV
    rw [hL, if_neg (by intro h; rw [hL, h] at hne; cases hne)]
  rw [hE]
  have HE := Lib.hid hE2
  clear hE hE2
  have Hlet := Lib.hid hlet
  clear hlet
  have HF := fun W h => Lib.hid (form_any op o0 o1 W h)
  rw [hL] at HF hne
  have HL := Lib.hid hL
  have HT := Lib.hid hT
  clear hT hL
  go_enter Tryd.func49, Tryd.ntmps49
  go_wp2_with fail
  refine ((HF _ (HT.out.below ((Below.refl _ _).alloc (Nat.le_refl _) _))).out).mono ?_
  rintro e w1 ⟨rfl, hb⟩
  have hA : w1.heap[w.heap.size]? = some (.cells #[.int .i64 op, .int .i64 a, .int .i64 b, .int .i64 c, .int .i64 d] 65 (0, 0)) := by
    rw [hb.block _ (by simp)]
    exact alloc_new _ _
  have hbw : Below w.heap.size w w1 := ((Below.refl _ _).alloc (Nat.le_refl _) _).trans (hb.mono (by simp))
  have z1 : w.heap.size < w1.heap.size := by have := hb.size; simp at this; omega
  have z1' : w.heap.size ≤ w1.heap.size := Nat.le_of_lt z1
  have c0 := block_cell hA 0
  simp only [List.getElem?_toArray, List.getElem?_cons_zero] at c0
  go_wp2_with fail
  go_loopw [5] (fun wd wr => ∃ (pos : Nat) (word ka kb kc kd : Int), wd = .int .u32 word ∧ pos ≤ L.length ∧ 0 ≤ word ∧ word ≤ 4294967295 ∧ wr.heap[w.heap.size]? = some (.cells #[.int .i64 op, .int .i64 a, .int .i64 b, .int .i64 c, .int .i64 d] 65 (0, 0)) ∧ InsAt wr w1.heap.size op ka kb kc kd ∧ wr.heap[w1.heap.size + 1]? = some (.stringIter ⟨L.toArray⟩ pos) ∧ Below w.heap.size w wr ∧ Hid (encF a b c d (L.drop pos) word ka kb kc kd = E)) (fun _ wr => L.length - wr.iterPos (w1.heap.size + 1))
  case atStart =>
    refine ⟨0, op % 4294967296, 0, 0, 0, 0, rfl, by omega, by omega, by omega, ?_, ?_, ?_, (hbw.alloc z1' _).alloc (by simp; omega) _, HE⟩
    · exact (Below.heap_alloc (w1.alloc _) _ _ (by rw [World.size_alloc]; omega)).trans ((Below.heap_alloc w1 _ _ z1).trans hA)
    · exact (Below.heap_alloc (w1.alloc _) _ _ (by rw [World.size_alloc]; omega)).trans (alloc_new _ _)
    · have h := World.iter_heap (w1.alloc (.cells #[.int .i64 op, .int .i64 0, .int .i64 0, .int .i64 0, .int .i64 0] 65)) ⟨L.toArray⟩ 0
      rw [World.size_alloc] at h
      exact h
  case round =>
    obtain ⟨pos, word, ka, kb, kc, kd, rfl, hpos, w0, w32, hA2, hK, hit, hbr, HD⟩ := hrel
    have hsz : w1.heap.size + 1 < wr.heap.size := (Array.getElem?_eq_some_iff.1 hit).1
    by_cases hp : pos < L.length
    · have hp2 : pos < (⟨L.toArray⟩ : ByteArray).size := by show pos < L.toArray.size; rw [List.size_toArray]; exact hp
      obtain ⟨l, hl0, hl1, hst, hnx⟩ : ∃ l : Int, 65 ≤ l ∧ l ≤ 68 ∧
          Hid ((fitsB l (fld a b c d l) = false → E = (0, 1)) ∧ (fitsB l (fld a b c d l) = true → encF a b c d (L.drop (pos + 1)) (orW word (fld a b c d l) (shiftV l)) (if l = 65 then fld a b c d l else ka) (if l = 66 then fld a b c d l else kb) (if l = 67 then fld a b c d l else kc) (if l = 65 ∨ l = 66 ∨ l = 67 then kd else fld a b c d l) = E)) ∧ ∀ ty, (Instr.next (.pointer (some ⟨w1.heap.size + 1, 0, none⟩)) true ty).run Tryd.prog wr = .ok (.tuple #[.bool true, .int .i64 pos, .int .i32 l]) (wr.iterAt (w1.heap.size + 1) ⟨L.toArray⟩ (pos + 1)) := by
        have hm := Hlet.out _ (List.getElem_mem hp)
        refine ⟨(L[pos].toNat : Int), by omega, by omega, ?_, fun ty => Lib.run_next_ascii_at wr (w1.heap.size + 1) ⟨L.toArray⟩ pos ty hit hp2 (show (L.toArray[pos]).toNat < 128 by simp only [List.getElem_toArray]; omega)⟩
        have h := HD.out
        rw [drop_cons hp, encF] at h
        refine ⟨fun h0 => ?_, fun h1 => ?_⟩
        · rw [if_neg (by rw [h0]; simp)] at h
          exact h.symm
        · rw [if_pos h1] at h
          exact h
      have hA3 := (Lib.iterAt_other wr (w1.heap.size + 1) w.heap.size ⟨L.toArray⟩ (pos + 1) (by omega)).trans hA2
      have d0 := block_cell hA3 0
      have d1 := block_cell hA3 1
      have d2 := block_cell hA3 2
      have d3 := block_cell hA3 3
      have d4 := block_cell hA3 4
      simp only [List.getElem?_toArray, List.getElem?_cons_zero, List.getElem?_cons_succ] at d0 d1 d2 d3 d4
      have FI := fun W => Lib.hid (field_any op a b c d l W)
      obtain ⟨n, hn⟩ : ∃ n, fld a b c d l = n := ⟨_, rfl⟩
      rw [hn] at FI hst
      obtain ⟨sh, hs⟩ : ∃ n, shiftV l = n := ⟨_, rfl⟩
      have SH := fun W => Lib.hid (shift_any l W)
      have hs2 := shiftV_ok l
      rw [hs] at SH hs2 hst
      go_wp2_with fail
      refine ((FI _).out).mono ?_
      rintro e w2 ⟨rfl, hb2⟩
      go_wp2_with fail
      refine (fits_any _ _ _).mono ?_
      rintro e w' ⟨rfl, rfl⟩
      cases hf : fitsB l n
      · have hE1 := hst.out.1 hf
        have HE1 := Lib.hid hE1
        clear hE1
        go_wp2_with fail
        go_ret2
        exact ⟨ret_E HE1.out, hbr.trans ((Lib.below_iterAt (Below.refl _ _) (by omega) _ _).trans (hb2.mono (by rw [Lib.iterAt_size]; omega)))⟩
      · have HD2 := Lib.hid (hst.out.2 hf)
        go_wp2_with fail
        have hK2 : InsAt w2 w1.heap.size op ka kb kc kd := by
          unfold InsAt
          rw [hb2.block _ (by rw [Lib.iterAt_size]; omega), Lib.iterAt_other _ _ _ _ _ (by omega)]
          exact hK
        refine (put_any w1.heap.size op ka kb kc kd l n _ hK2).mono ?_
        rintro e w' ⟨rfl, rfl⟩
        go_wp2_with fail
        refine ((SH _).out).mono ?_
        rintro e w' ⟨rfl, rfl⟩
        go_wp2
        go_roundw
        case rel =>
          have hit2 : w2.heap[w1.heap.size + 1]? = some (.stringIter ⟨L.toArray⟩ (pos + 1)) := (hb2.block _ (by rw [Lib.iterAt_size]; omega)).trans (Lib.iterAt_heap wr (w1.heap.size + 1) ⟨L.toArray⟩ pos (pos + 1) hit)
          have hA4 := (hb2.block w.heap.size (by rw [Lib.iterAt_size]; omega)).trans hA3
          have hb5 : Below w.heap.size w w2 := hbr.trans ((Lib.below_iterAt (Below.refl _ _) (by omega) _ _).trans (hb2.mono (by rw [Lib.iterAt_size]; omega)))
          exact ⟨pos + 1, _, _, _, _, _, rfl, by omega, (bits_u32 _ _).1, (bits_u32 _ _).2, (Below.heap_setCell _ _ _ _ (show w.heap.size ≠ w1.heap.size by omega)).trans hA4, hK2.put l n,
            (Below.heap_setCell _ _ _ _ (show w1.heap.size + 1 ≠ w1.heap.size by omega)).trans hit2, hb5.setCell (p := ⟨w1.heap.size, putO l, none⟩) (by simp; omega) _, HD2⟩
        case measure =>
          have hit2 : w2.heap[w1.heap.size + 1]? = some (.stringIter ⟨L.toArray⟩ (pos + 1)) := (hb2.block _ (by rw [Lib.iterAt_size]; omega)).trans (Lib.iterAt_heap wr (w1.heap.size + 1) ⟨L.toArray⟩ pos (pos + 1) hit)
          rw [iterPos_of hit, iterPos_of ((Below.heap_setCell _ _ _ _ (show w1.heap.size + 1 ≠ w1.heap.size by omega)).trans hit2)]
          omega
    · have hp2 : ¬pos < (⟨L.toArray⟩ : ByteArray).size := by show ¬pos < L.toArray.size; rw [List.size_toArray]; exact hp
      have hnx : ∀ ty, (Instr.next (.pointer (some ⟨w1.heap.size + 1, 0, none⟩)) true ty).run Tryd.prog wr = _ := fun ty => Lib.run_next_end_at wr (w1.heap.size + 1) ⟨L.toArray⟩ pos ty hit hp2
      have d0 := block_cell hA2 0
      have d1 := block_cell hA2 1
      have d2 := block_cell hA2 2
      have d3 := block_cell hA2 3
      have d4 := block_cell hA2 4
      have k0 := block_cell hK 0
      have k1 := block_cell hK 1
      have k2 := block_cell hK 2
      have k3 := block_cell hK 3
      have k4 := block_cell hK 4
      simp only [List.getElem?_toArray, List.getElem?_cons_zero, List.getElem?_cons_succ] at d0 d1 d2 d3 d4 k0 k1 k2 k3 k4
      have hE : encF a b c d [] word ka kb kc kd = E := by
        have h := HD.out
        rw [List.drop_eq_nil_of_le (by omega)] at h
        exact h
      rw [encF] at hE
      have HE3 := Lib.hid hE
      clear hE
      go_wp2
      · go_ret2
        exact ⟨ret_E (by rw [← HE3.out, if_pos (by refine ⟨?_, ?_, ?_, ?_⟩ <;> first | rfl | assumption)]), hbr⟩
      all_goals
        go_ret2
        exact ⟨ret_E (by rw [← HE3.out, if_neg (by rintro ⟨h1, h2, h3, h4⟩; contradiction)]), hbr⟩
end InstrD
end Go.Proofs.YtmebhdffgpnplaaDoor
