/- Texts: the program's. -/
import Derived.Test.YtakdmlaecidjaaaGreatDoorTck5a
import Derived.Test.YtakdmlaecidjaaaGreatDoorTck5d
import Derived.Lib.Fields
namespace Go.Proofs.YtakdmlaecidjaaaGreatDoor
open Go.RowKit ObjM
namespace TreeD

/-- What the program's and the library's texts lay. -/
structure Tt (w : World) : Prop where
  wt : LexD.WTab w
  tm : Tm w
  sp : Lib.TabIs Tryz.prog w "strings.asciiSpace" .u8 Lib.asciiSpaceTab
theorem gSp : Tryz.prog.globalNamed "strings.asciiSpace" = some 2 := by kernel_rfl
theorem Tt.below {w w' : World} (h : Tt w) (hb : Below w.heap.size w w') : Tt w' := ⟨h.wt.below hb, h.tm.below hb, NumD.TabIs_below gSp h.sp hb⟩
theorem same_text (s t : ByteArray) : (s.toList == t.toList) = (s.data.toList == t.data.toList) := by
  rw [ByteArray.toList_eq, ByteArray.toList_eq]
def memD (L : List (List UInt8)) (t : ByteArray) : Bool := L.any fun x => x == t.data.toList
theorem memD_drop {L : List (List UInt8)} {k : Nat} {t : ByteArray} (hk : k < L.length) : memD (L.drop k) t = ((L[k] == t.data.toList) || memD (L.drop (k + 1)) t) := by
  unfold memD
  rw [List.drop_eq_getElem_cons hk, List.any_cons]
theorem memD_eq (L : List ByteArray) (t : ByteArray) : memD (L.map fun s => s.data.toList) t = memB L t := by
  unfold memD memB
  rw [List.any_map]
  rfl
set_option maxRecDepth 100000 in
set_option maxHeartbeats 4000000 in
theorem oneOf_any (t ws : ByteArray) (L : List (List UInt8)) (hL : Lib.fields ws.data.toList = L) (hlen : L.length ≤ 100) (hz : ws.size ≤ 1000) (hasc : ∀ (j : Nat) b, ws.data.toList[j]? = some b → b.toNat < 128) (w : World) (hT : Lib.TabIs Tryz.prog w "strings.asciiSpace" .u8 Lib.asciiSpaceTab) :
    Calls Tryz.prog 52 #[.string t, .string ws] w fun e w' => e = .returned (.bool (memD L t)) ∧ Below w.heap.size w w' := by
  have HF := Lib.hid (Tryz.strings_Fields ws w (by omega) hasc hT)
  rw [hL] at HF
  obtain ⟨R, hR⟩ : ∃ R, memD L t = R := ⟨_, rfl⟩
  rw [hR]
  have HR0 : Hid (memD (L.drop 0) t = R) := Lib.hid hR
  obtain ⟨m, hm⟩ : ∃ m, L.length = m := ⟨_, rfl⟩
  have HM := Lib.hid hm
  rw [hm] at HF hlen
  have HA : Hid (Has (w.alloc (.cells (L.map fun l => Value.string ⟨l.toArray⟩).toArray 9)) w.heap.size 9 (L.map fun l => Value.string ⟨l.toArray⟩)) := Lib.hid (Has.new w _ _)
  have HB : Hid (Below w.heap.size w (w.alloc (.cells (L.map fun l => Value.string ⟨l.toArray⟩).toArray 9))) := Lib.hid ((Below.refl _ w).alloc (Nat.le_refl _) _)
  clear hL hR hm hT hasc hz
  go_enter Tryz.func52, Tryz.ntmps52
  go_wp2_with fail
  refine (HF.out).mono ?_
  rintro e w1 ⟨rfl, hw⟩
  rw [← hw] at HA HB
  clear hw HF
  generalize w.heap.size = K at HA ⊢
  go_wp2
  go_loopw [10] (fun i wr => ∃ k : Nat, i = .int .i64 (k : Int) ∧ k ≤ m ∧ Hid (wr = w1) ∧ Hid (memD (L.drop k) t = R)) (fun i _ => m - (intOf i).toNat)
  case atStart => exact ⟨0, rfl, by omega, Lib.hid rfl, HR0⟩
  case round =>
    obtain ⟨k, rfl, hk, HW, HR⟩ := hrel
    obtain rfl := HW.out
    clear HW
    by_cases hlt : k < m
    · have hk1 : (k : Int) < (m : Int) := by omega
      have hkL : k < L.length := by rw [HM.out]; exact hlt
      have HD := Lib.hid (memD_drop (t := t) hkL)
      have hc := (HA.out.cell k).trans (show (L.map fun l => Value.string ⟨l.toArray⟩)[k]? = some (.string ⟨L[k].toArray⟩) by rw [List.getElem?_map, List.getElem?_eq_getElem hkL]; rfl)
      have hl := HA.out.lt
      obtain ⟨x, hx⟩ : ∃ x : ByteArray, (⟨L[k].toArray⟩ : ByteArray) = x := ⟨_, rfl⟩
      have hxl : x.data.toList = L[k] := by rw [← hx]
      rw [← hxl, ← same_text] at HD
      rw [hx] at hc
      obtain ⟨bb, hbb⟩ : ∃ bb, (x.toList == t.toList) = bb := ⟨_, rfl⟩
      rw [hbb] at HD
      clear hx hxl
      cases bb
      · have HR2 : Hid (memD (L.drop (k + 1)) t = R) := Lib.hid (by rw [← HR.out, HD.out]; rfl)
        clear HR HD
        go_wp2
        go_roundw
        case rel => exact ⟨k + 1, by go_num, by omega, (by first | exact Lib.hid rfl | exact Lib.hid trivial), HR2⟩
        case measure => simp [intOf]; omega
      · have hRt : R = true := by rw [← HR.out, HD.out]; rfl
        subst hRt
        clear HR HD
        go_wp2
        go_ret
        exact ⟨rfl, HB.out⟩
    · have hRf : R = false := by
        rw [← HR.out, List.drop_eq_nil_of_le (by rw [HM.out]; omega)]
        rfl
      have hkm : k = m := by omega
      subst hRf hkm
      go_wp2
      go_ret
      exact ⟨rfl, HB.out⟩
theorem one27 (t : ByteArray) (w : World) (hT : Tt w) : Calls Tryz.prog 52 #[.string t, .string ⟨#[43, 32, 45, 32, 42, 32, 47, 47, 32, 37, 32, 46, 46, 32, 61, 61, 32, 126, 61, 32, 60, 32, 60, 61, 32, 62, 32, 62, 61]⟩] w fun e w' => e = .returned (.bool (memB BINS t)) ∧ Below w.heap.size w w' := by
  rw [← memD_eq]
  exact oneOf_any t _ _ (by decide +kernel) (by decide) (by decide) (by
    intro j b hb
    have h : ∀ c ∈ (⟨#[43, 32, 45, 32, 42, 32, 47, 47, 32, 37, 32, 46, 46, 32, 61, 61, 32, 126, 61, 32, 60, 32, 60, 61, 32, 62, 32, 62, 61]⟩ : ByteArray).data.toList, c.toNat < 128 := by decide
    exact h b (List.mem_of_getElem? hb)) w hT.sp
theorem one28 (t : ByteArray) (w : World) (hT : Tt w) : Calls Tryz.prog 52 #[.string t, .string ⟨#[45, 32, 110, 111, 116, 32, 35]⟩] w fun e w' => e = .returned (.bool (memB UNS t)) ∧ Below w.heap.size w w' := by
  rw [← memD_eq]
  exact oneOf_any t _ _ (by decide +kernel) (by decide) (by decide) (by
    intro j b hb
    have h : ∀ c ∈ (⟨#[45, 32, 110, 111, 116, 32, 35]⟩ : ByteArray).data.toList, c.toNat < 128 := by decide
    exact h b (List.mem_of_getElem? hb)) w hT.sp
theorem one31 (t : ByteArray) (w : World) (hT : Tt w) : Calls Tryz.prog 52 #[.string t, .string ⟨#[97, 110, 121, 32, 110, 105, 108, 32, 98, 111, 111, 108, 32, 105, 110, 116, 32, 115, 116, 114, 105, 110, 103, 32, 116, 97, 98, 108, 101, 32, 116, 104, 114, 101, 97, 100]⟩] w fun e w' => e = .returned (.bool (memB TYS t)) ∧ Below w.heap.size w w' := by
  rw [← memD_eq]
  exact oneOf_any t _ _ (by decide +kernel) (by decide) (by decide) (by
    intro j b hb
    have h : ∀ c ∈ (⟨#[97, 110, 121, 32, 110, 105, 108, 32, 98, 111, 111, 108, 32, 105, 110, 116, 32, 115, 116, 114, 105, 110, 103, 32, 116, 97, 98, 108, 101, 32, 116, 104, 114, 101, 97, 100]⟩ : ByteArray).data.toList, c.toNat < 128 := by decide
    exact h b (List.mem_of_getElem? hb)) w hT.sp
theorem decF_range : ∀ (l : List UInt8) (n : Int), 0 ≤ n → n ≤ 9223372036854775807 → 0 ≤ (NumM.decF l n).1 ∧ (NumM.decF l n).1 ≤ 9223372036854775807
  | [], n, h0, h1 => ⟨h0, h1⟩
  | c :: r, n, h0, h1 => by
    have hd := NumM.digV_lo (c.toNat : Int)
    rw [NumM.decF]
    split
    · exact ⟨by decide, by decide⟩
    · rename_i hc
      exact decF_range r _ (by omega) (by omega)
theorem hexF_range : ∀ (l : List UInt8) (n : Int), -9223372036854775808 ≤ n → n ≤ 9223372036854775807 → -9223372036854775808 ≤ (NumM.hexF l n).1 ∧ (NumM.hexF l n).1 ≤ 9223372036854775807
  | [], n, h0, h1 => ⟨h0, h1⟩
  | c :: r, n, h0, h1 => by
    rw [NumM.hexF]
    split
    · exact ⟨by decide, by decide⟩
    · exact hexF_range r _ (NumM.w64_lo _) (NumM.w64_hi _)
theorem num_range (l : List UInt8) : -9223372036854775808 ≤ (NumM.numV l).1 ∧ (NumM.numV l).1 ≤ 9223372036854775807 := by
  unfold NumM.numV
  split
  · unfold NumM.hexV
    split
    · exact ⟨by decide, by decide⟩
    · exact hexF_range _ _ (by decide) (by decide)
  · unfold NumM.decV
    split
    · exact ⟨by decide, by decide⟩
    · have := decF_range l 0 (by decide) (by decide)
      omega
theorem byte1 {s : ByteArray} (h : 1 < s.size) : byteAt s 1 = (s[1]'h).toNat := by
  unfold byteAt
  have h2 : 1 < s.data.toList.length := h
  rw [List.getD_eq_getElem?_getD, List.getElem?_eq_getElem h2]
  rfl
set_option maxRecDepth 100000 in
set_option maxHeartbeats 8000000 in
theorem tx18 (t : ByteArray) (hs : t.size ≤ 140737488355328) (kv : Value) (p : Int) (w : World) (hT : Tt w) : Calls Tryz.prog 33 #[.agg #[.int .i64 18, .string t, kv, .int .i64 p]] w fun e w' => e = .returned (.bool (LexD.nameB t)) ∧ Below w.heap.size w w' := by
  have hA : Below w.heap.size w (w.alloc (.cells #[.int .i64 18, .string t, kv, .int .i64 p] 35)) := (Below.refl _ w).alloc (Nat.le_refl _) _
  have HA := Lib.hid hA
  have hsz : w.heap.size ≤ (w.alloc (.cells #[.int .i64 18, .string t, kv, .int .i64 p] 35)).heap.size := hA.size
  have HT := Lib.hid (fun (W : World) (h : Below w.heap.size w W) => hT.below h)
  have HN := Lib.hid (LexD.name_fn t hs _ (HT.out _ hA).wt)
  clear hA hT
  go_enter Tryz.func33, Tryz.ntmps33
  go_wp2_with fail
  refine (HN.out).mono ?_
  rintro e w1 ⟨rfl, hb⟩
  have HB := Lib.hid (HA.out.trans (hb.mono hsz))
  clear hb
  go_wp2
  go_ret
  exact ⟨rfl, HB.out⟩
set_option maxRecDepth 100000 in
set_option maxHeartbeats 8000000 in
theorem tx25 (t : ByteArray) (hs : t.size ≤ 140737488355328) (kv : Value) (p : Int) (w : World) (hT : Tt w) : Calls Tryz.prog 33 #[.agg #[.int .i64 25, .string t, kv, .int .i64 p]] w fun e w' => e = .returned (.bool (LexD.nameB t)) ∧ Below w.heap.size w w' := by
  have hA : Below w.heap.size w (w.alloc (.cells #[.int .i64 25, .string t, kv, .int .i64 p] 35)) := (Below.refl _ w).alloc (Nat.le_refl _) _
  have HA := Lib.hid hA
  have hsz : w.heap.size ≤ (w.alloc (.cells #[.int .i64 25, .string t, kv, .int .i64 p] 35)).heap.size := hA.size
  have HT := Lib.hid (fun (W : World) (h : Below w.heap.size w W) => hT.below h)
  have HN := Lib.hid (LexD.name_fn t hs _ (HT.out _ hA).wt)
  clear hA hT
  go_enter Tryz.func33, Tryz.ntmps33
  go_wp2_with fail
  refine (HN.out).mono ?_
  rintro e w1 ⟨rfl, hb⟩
  have HB := Lib.hid (HA.out.trans (hb.mono hsz))
  clear hb
  go_wp2
  go_ret
  exact ⟨rfl, HB.out⟩
set_option maxRecDepth 100000 in
set_option maxHeartbeats 8000000 in
theorem tx33 (t : ByteArray) (hs : t.size ≤ 140737488355328) (kv : Value) (p : Int) (w : World) (hT : Tt w) : Calls Tryz.prog 33 #[.agg #[.int .i64 33, .string t, kv, .int .i64 p]] w fun e w' => e = .returned (.bool (LexD.nameB t)) ∧ Below w.heap.size w w' := by
  have hA : Below w.heap.size w (w.alloc (.cells #[.int .i64 33, .string t, kv, .int .i64 p] 35)) := (Below.refl _ w).alloc (Nat.le_refl _) _
  have HA := Lib.hid hA
  have hsz : w.heap.size ≤ (w.alloc (.cells #[.int .i64 33, .string t, kv, .int .i64 p] 35)).heap.size := hA.size
  have HT := Lib.hid (fun (W : World) (h : Below w.heap.size w W) => hT.below h)
  have HN := Lib.hid (LexD.name_fn t hs _ (HT.out _ hA).wt)
  clear hA hT
  go_enter Tryz.func33, Tryz.ntmps33
  go_wp2_with fail
  refine (HN.out).mono ?_
  rintro e w1 ⟨rfl, hb⟩
  have HB := Lib.hid (HA.out.trans (hb.mono hsz))
  clear hb
  go_wp2
  go_ret
  exact ⟨rfl, HB.out⟩
set_option maxRecDepth 100000 in
set_option maxHeartbeats 8000000 in
theorem tx4 (t : ByteArray) (hs : t.size ≤ 140737488355328) (kv : Value) (p : Int) (w : World) (hT : Tt w) : Calls Tryz.prog 33 #[.agg #[.int .i64 4, .string t, kv, .int .i64 p]] w fun e w' => e = .returned (.bool (freeB t)) ∧ Below w.heap.size w w' := by
  have hA : Below w.heap.size w (w.alloc (.cells #[.int .i64 4, .string t, kv, .int .i64 p] 35)) := (Below.refl _ w).alloc (Nat.le_refl _) _
  have HA := Lib.hid hA
  have hsz : w.heap.size ≤ (w.alloc (.cells #[.int .i64 4, .string t, kv, .int .i64 p] 35)).heap.size := hA.size
  have HT := Lib.hid (fun (W : World) (h : Below w.heap.size w W) => hT.below h)
  have HN := Lib.hid (LexD.name_fn t hs _ (HT.out _ hA).wt)
  have HBu := fun W => Lib.hid (builtin_any t W)
  unfold freeB
  generalize builtinV t = v at HBu ⊢
  generalize LexD.nameB t = nb at HN ⊢
  clear hA hT
  cases nb
  · go_enter Tryz.func33, Tryz.ntmps33
    go_wp2_with fail
    refine (HN.out).mono ?_
    rintro e w1 ⟨rfl, hb⟩
    have HB := Lib.hid (HA.out.trans (hb.mono hsz))
    clear hb
    go_wp2
    go_ret
    exact ⟨rfl, HB.out⟩
  · go_enter Tryz.func33, Tryz.ntmps33
    go_wp2_with fail
    refine (HN.out).mono ?_
    rintro e w1 ⟨rfl, hb⟩
    have HB := Lib.hid (HA.out.trans (hb.mono hsz))
    clear hb
    go_wp2_with fail
    refine ((HBu _).out).mono ?_
    rintro e w2 ⟨rfl, rfl⟩
    go_wp2
    go_ret
    exact ⟨rfl, HB.out⟩
set_option maxRecDepth 100000 in
set_option maxHeartbeats 8000000 in
theorem tx5 (t : ByteArray) (hs : t.size ≤ 140737488355328) (kv : Value) (p : Int) (w : World) (hT : Tt w) : Calls Tryz.prog 33 #[.agg #[.int .i64 5, .string t, kv, .int .i64 p]] w fun e w' => e = .returned (.bool (freeB t)) ∧ Below w.heap.size w w' := by
  have hA : Below w.heap.size w (w.alloc (.cells #[.int .i64 5, .string t, kv, .int .i64 p] 35)) := (Below.refl _ w).alloc (Nat.le_refl _) _
  have HA := Lib.hid hA
  have hsz : w.heap.size ≤ (w.alloc (.cells #[.int .i64 5, .string t, kv, .int .i64 p] 35)).heap.size := hA.size
  have HT := Lib.hid (fun (W : World) (h : Below w.heap.size w W) => hT.below h)
  have HN := Lib.hid (LexD.name_fn t hs _ (HT.out _ hA).wt)
  have HBu := fun W => Lib.hid (builtin_any t W)
  unfold freeB
  generalize builtinV t = v at HBu ⊢
  generalize LexD.nameB t = nb at HN ⊢
  clear hA hT
  cases nb
  · go_enter Tryz.func33, Tryz.ntmps33
    go_wp2_with fail
    refine (HN.out).mono ?_
    rintro e w1 ⟨rfl, hb⟩
    have HB := Lib.hid (HA.out.trans (hb.mono hsz))
    clear hb
    go_wp2
    go_ret
    exact ⟨rfl, HB.out⟩
  · go_enter Tryz.func33, Tryz.ntmps33
    go_wp2_with fail
    refine (HN.out).mono ?_
    rintro e w1 ⟨rfl, hb⟩
    have HB := Lib.hid (HA.out.trans (hb.mono hsz))
    clear hb
    go_wp2_with fail
    refine ((HBu _).out).mono ?_
    rintro e w2 ⟨rfl, rfl⟩
    go_wp2
    go_ret
    exact ⟨rfl, HB.out⟩
set_option maxRecDepth 100000 in
set_option maxHeartbeats 8000000 in
theorem tx17 (t : ByteArray) (hs : t.size ≤ 140737488355328) (kv : Value) (p : Int) (w : World) (hT : Tt w) : Calls Tryz.prog 33 #[.agg #[.int .i64 17, .string t, kv, .int .i64 p]] w fun e w' => e = .returned (.bool (freeB t)) ∧ Below w.heap.size w w' := by
  have hA : Below w.heap.size w (w.alloc (.cells #[.int .i64 17, .string t, kv, .int .i64 p] 35)) := (Below.refl _ w).alloc (Nat.le_refl _) _
  have HA := Lib.hid hA
  have hsz : w.heap.size ≤ (w.alloc (.cells #[.int .i64 17, .string t, kv, .int .i64 p] 35)).heap.size := hA.size
  have HT := Lib.hid (fun (W : World) (h : Below w.heap.size w W) => hT.below h)
  have HN := Lib.hid (LexD.name_fn t hs _ (HT.out _ hA).wt)
  have HBu := fun W => Lib.hid (builtin_any t W)
  unfold freeB
  generalize builtinV t = v at HBu ⊢
  generalize LexD.nameB t = nb at HN ⊢
  clear hA hT
  cases nb
  · go_enter Tryz.func33, Tryz.ntmps33
    go_wp2_with fail
    refine (HN.out).mono ?_
    rintro e w1 ⟨rfl, hb⟩
    have HB := Lib.hid (HA.out.trans (hb.mono hsz))
    clear hb
    go_wp2
    go_ret
    exact ⟨rfl, HB.out⟩
  · go_enter Tryz.func33, Tryz.ntmps33
    go_wp2_with fail
    refine (HN.out).mono ?_
    rintro e w1 ⟨rfl, hb⟩
    have HB := Lib.hid (HA.out.trans (hb.mono hsz))
    clear hb
    go_wp2_with fail
    refine ((HBu _).out).mono ?_
    rintro e w2 ⟨rfl, rfl⟩
    go_wp2
    go_ret
    exact ⟨rfl, HB.out⟩
set_option maxRecDepth 100000 in
set_option maxHeartbeats 8000000 in
theorem tx23 (t : ByteArray) (hs : t.size ≤ 140737488355328) (kv : Value) (p : Int) (w : World) (hT : Tt w) : Calls Tryz.prog 33 #[.agg #[.int .i64 23, .string t, kv, .int .i64 p]] w fun e w' => e = .returned (.bool (freeB t)) ∧ Below w.heap.size w w' := by
  have hA : Below w.heap.size w (w.alloc (.cells #[.int .i64 23, .string t, kv, .int .i64 p] 35)) := (Below.refl _ w).alloc (Nat.le_refl _) _
  have HA := Lib.hid hA
  have hsz : w.heap.size ≤ (w.alloc (.cells #[.int .i64 23, .string t, kv, .int .i64 p] 35)).heap.size := hA.size
  have HT := Lib.hid (fun (W : World) (h : Below w.heap.size w W) => hT.below h)
  have HN := Lib.hid (LexD.name_fn t hs _ (HT.out _ hA).wt)
  have HBu := fun W => Lib.hid (builtin_any t W)
  unfold freeB
  generalize builtinV t = v at HBu ⊢
  generalize LexD.nameB t = nb at HN ⊢
  clear hA hT
  cases nb
  · go_enter Tryz.func33, Tryz.ntmps33
    go_wp2_with fail
    refine (HN.out).mono ?_
    rintro e w1 ⟨rfl, hb⟩
    have HB := Lib.hid (HA.out.trans (hb.mono hsz))
    clear hb
    go_wp2
    go_ret
    exact ⟨rfl, HB.out⟩
  · go_enter Tryz.func33, Tryz.ntmps33
    go_wp2_with fail
    refine (HN.out).mono ?_
    rintro e w1 ⟨rfl, hb⟩
    have HB := Lib.hid (HA.out.trans (hb.mono hsz))
    clear hb
    go_wp2_with fail
    refine ((HBu _).out).mono ?_
    rintro e w2 ⟨rfl, rfl⟩
    go_wp2
    go_ret
    exact ⟨rfl, HB.out⟩
set_option maxRecDepth 100000 in
set_option maxHeartbeats 8000000 in
theorem tx14 (t : ByteArray) (_hs : t.size ≤ 140737488355328) (kv : Value) (p : Int) (w : World) (hT : Tt w) : Calls Tryz.prog 33 #[.agg #[.int .i64 14, .string t, kv, .int .i64 p]] w fun e w' => e = .returned (.bool (memB BOOLS t)) ∧ Below w.heap.size w w' := by
  have hA : Below w.heap.size w (w.alloc (.cells #[.int .i64 14, .string t, kv, .int .i64 p] 35)) := (Below.refl _ w).alloc (Nat.le_refl _) _
  have HA := Lib.hid hA
  have hsz : w.heap.size ≤ (w.alloc (.cells #[.int .i64 14, .string t, kv, .int .i64 p] 35)).heap.size := hA.size
  have HT := Lib.hid (fun (W : World) (h : Below w.heap.size w W) => hT.below h)
  have hm : memB BOOLS t = ((t.toList == [116, 114, 117, 101]) || (t.toList == [102, 97, 108, 115, 101])) := by
    unfold memB BOOLS
    rw [ByteArray.toList_eq]
    simp only [List.any_cons, List.any_nil, Bool.or_false]
    rw [Bool.beq_comm (a := t.data.toList), Bool.beq_comm (a := t.data.toList)]
  rw [hm]
  obtain ⟨b1, h1⟩ : ∃ b, (t.toList == [116, 114, 117, 101]) = b := ⟨_, rfl⟩
  obtain ⟨b2, h2⟩ : ∃ b, (t.toList == [102, 97, 108, 115, 101]) = b := ⟨_, rfl⟩
  rw [h1, h2]
  clear hm hA hT
  cases b1 <;> cases b2
  all_goals
    go_enter Tryz.func33, Tryz.ntmps33
    go_wp2
    go_ret
    exact ⟨rfl, HA.out⟩
set_option maxRecDepth 100000 in
set_option maxHeartbeats 8000000 in
theorem tx15 (t : ByteArray) (hs : t.size ≤ 140737488355328) (kv : Value) (p : Int) (w : World) (hT : Tt w) : Calls Tryz.prog 33 #[.agg #[.int .i64 15, .string t, kv, .int .i64 p]] w fun e w' => e = .returned (.bool (intB t)) ∧ Below w.heap.size w w' := by
  have hA : Below w.heap.size w (w.alloc (.cells #[.int .i64 15, .string t, kv, .int .i64 p] 35)) := (Below.refl _ w).alloc (Nat.le_refl _) _
  have HA := Lib.hid hA
  have hsz : w.heap.size ≤ (w.alloc (.cells #[.int .i64 15, .string t, kv, .int .i64 p] 35)).heap.size := hA.size
  have HT := Lib.hid (fun (W : World) (h : Below w.heap.size w W) => hT.below h)
  have hrange := num_range t.data.toList
  have HN := Lib.hid (NumD.number_any t (w.alloc (.cells #[.int .i64 15, .string t, kv, .int .i64 p] 35)) (by omega))
  unfold intB
  obtain ⟨v, hv⟩ : ∃ v, (NumM.numV t.data.toList).1 = v := ⟨_, rfl⟩
  obtain ⟨b, hb⟩ : ∃ b, (NumM.numV t.data.toList).2 = b := ⟨_, rfl⟩
  rw [hv] at hrange
  rw [hv, hb] at HN ⊢
  have HS := Lib.hid (fun (W : World) (h : Below w.heap.size w W) => NumD.show_any v hrange.1 hrange.2 W (HT.out W h).tm.tab)
  have HTe := Lib.hid (text_eq (Lib.itoa v) t)
  have hde : decide (Lib.itoa v = t.data.toList) = decide (t.data.toList = Lib.itoa v) := by rw [decide_eq_decide]; exact ⟨Eq.symm, Eq.symm⟩
  rw [hde]
  obtain ⟨r, hr⟩ : ∃ r, decide (t.data.toList = Lib.itoa v) = r := ⟨_, rfl⟩
  rw [hr] at HTe ⊢
  obtain ⟨x, hx⟩ : ∃ x : ByteArray, (⟨(Lib.itoa v).toArray⟩ : ByteArray) = x := ⟨_, rfl⟩
  rw [hx] at HTe HS
  have hte := HTe.out
  clear hA hT hr hx hv hb hde
  cases b
  · go_enter Tryz.func33, Tryz.ntmps33
    go_wp2_with fail
    refine (HN.out).mono ?_
    rintro e w1 ⟨rfl, hb⟩
    have HB := Lib.hid (HA.out.trans (hb.mono hsz))
    clear hb
    go_wp2
    go_ret
    exact ⟨rfl, HB.out⟩
  · go_enter Tryz.func33, Tryz.ntmps33
    go_wp2_with fail
    refine (HN.out).mono ?_
    rintro e w1 ⟨rfl, hb⟩
    have HB := Lib.hid (HA.out.trans (hb.mono hsz))
    clear hb
    go_wp2_with fail
    refine (HS.out _ HB.out).mono ?_
    rintro e w2 ⟨rfl, hb2⟩
    have HB2 := Lib.hid (HB.out.trans (hb2.mono HB.out.size))
    clear hb2
    go_wp2
    go_ret
    exact ⟨rfl, HB2.out⟩
set_option maxRecDepth 100000 in
set_option maxHeartbeats 8000000 in
theorem tx16 (t : ByteArray) (_hs : t.size ≤ 140737488355328) (kv : Value) (p : Int) (w : World) (hT : Tt w) : Calls Tryz.prog 33 #[.agg #[.int .i64 16, .string t, kv, .int .i64 p]] w fun e w' => e = .returned (.bool (true)) ∧ Below w.heap.size w w' := by
  have hA : Below w.heap.size w (w.alloc (.cells #[.int .i64 16, .string t, kv, .int .i64 p] 35)) := (Below.refl _ w).alloc (Nat.le_refl _) _
  have HA := Lib.hid hA
  have hsz : w.heap.size ≤ (w.alloc (.cells #[.int .i64 16, .string t, kv, .int .i64 p] 35)).heap.size := hA.size
  have HT := Lib.hid (fun (W : World) (h : Below w.heap.size w W) => hT.below h)
  clear hA hT HT
  go_enter Tryz.func33, Tryz.ntmps33
  go_wp2
  go_ret
  exact ⟨rfl, HA.out⟩
set_option maxRecDepth 100000 in
set_option maxHeartbeats 8000000 in
theorem tx21 (t : ByteArray) (_hs : t.size ≤ 140737488355328) (kv : Value) (p : Int) (w : World) (hT : Tt w) : Calls Tryz.prog 33 #[.agg #[.int .i64 21, .string t, kv, .int .i64 p]] w fun e w' => e = .returned (.bool (decide (0 ≤ builtinV t))) ∧ Below w.heap.size w w' := by
  have hA : Below w.heap.size w (w.alloc (.cells #[.int .i64 21, .string t, kv, .int .i64 p] 35)) := (Below.refl _ w).alloc (Nat.le_refl _) _
  have HA := Lib.hid hA
  have hsz : w.heap.size ≤ (w.alloc (.cells #[.int .i64 21, .string t, kv, .int .i64 p] 35)).heap.size := hA.size
  have HT := Lib.hid (fun (W : World) (h : Below w.heap.size w W) => hT.below h)
  have HBu := fun W => Lib.hid (builtin_any t W)
  generalize builtinV t = v at HBu ⊢
  clear hA hT HT
  go_enter Tryz.func33, Tryz.ntmps33
  go_wp2_with fail
  refine ((HBu _).out).mono ?_
  rintro e w2 ⟨rfl, rfl⟩
  go_wp2
  go_ret
  exact ⟨rfl, HA.out⟩
set_option maxRecDepth 100000 in
set_option maxHeartbeats 8000000 in
theorem tx27 (t : ByteArray) (_hs : t.size ≤ 140737488355328) (kv : Value) (p : Int) (w : World) (hT : Tt w) : Calls Tryz.prog 33 #[.agg #[.int .i64 27, .string t, kv, .int .i64 p]] w fun e w' => e = .returned (.bool (memB BINS t)) ∧ Below w.heap.size w w' := by
  have hA : Below w.heap.size w (w.alloc (.cells #[.int .i64 27, .string t, kv, .int .i64 p] 35)) := (Below.refl _ w).alloc (Nat.le_refl _) _
  have HA := Lib.hid hA
  have hsz : w.heap.size ≤ (w.alloc (.cells #[.int .i64 27, .string t, kv, .int .i64 p] 35)).heap.size := hA.size
  have HT := Lib.hid (fun (W : World) (h : Below w.heap.size w W) => hT.below h)
  have HN := Lib.hid (one27 t _ (HT.out _ hA))
  clear hA hT
  go_enter Tryz.func33, Tryz.ntmps33
  go_wp2_with fail
  refine (HN.out).mono ?_
  rintro e w1 ⟨rfl, hb⟩
  have HB := Lib.hid (HA.out.trans (hb.mono hsz))
  clear hb
  go_wp2
  go_ret
  exact ⟨rfl, HB.out⟩
set_option maxRecDepth 100000 in
set_option maxHeartbeats 8000000 in
theorem tx28 (t : ByteArray) (_hs : t.size ≤ 140737488355328) (kv : Value) (p : Int) (w : World) (hT : Tt w) : Calls Tryz.prog 33 #[.agg #[.int .i64 28, .string t, kv, .int .i64 p]] w fun e w' => e = .returned (.bool (memB UNS t)) ∧ Below w.heap.size w w' := by
  have hA : Below w.heap.size w (w.alloc (.cells #[.int .i64 28, .string t, kv, .int .i64 p] 35)) := (Below.refl _ w).alloc (Nat.le_refl _) _
  have HA := Lib.hid hA
  have hsz : w.heap.size ≤ (w.alloc (.cells #[.int .i64 28, .string t, kv, .int .i64 p] 35)).heap.size := hA.size
  have HT := Lib.hid (fun (W : World) (h : Below w.heap.size w W) => hT.below h)
  have HN := Lib.hid (one28 t _ (HT.out _ hA))
  clear hA hT
  go_enter Tryz.func33, Tryz.ntmps33
  go_wp2_with fail
  refine (HN.out).mono ?_
  rintro e w1 ⟨rfl, hb⟩
  have HB := Lib.hid (HA.out.trans (hb.mono hsz))
  clear hb
  go_wp2
  go_ret
  exact ⟨rfl, HB.out⟩
set_option maxRecDepth 100000 in
set_option maxHeartbeats 8000000 in
theorem tx31 (t : ByteArray) (_hs : t.size ≤ 140737488355328) (kv : Value) (p : Int) (w : World) (hT : Tt w) : Calls Tryz.prog 33 #[.agg #[.int .i64 31, .string t, kv, .int .i64 p]] w fun e w' => e = .returned (.bool (memB TYS t)) ∧ Below w.heap.size w w' := by
  have hA : Below w.heap.size w (w.alloc (.cells #[.int .i64 31, .string t, kv, .int .i64 p] 35)) := (Below.refl _ w).alloc (Nat.le_refl _) _
  have HA := Lib.hid hA
  have hsz : w.heap.size ≤ (w.alloc (.cells #[.int .i64 31, .string t, kv, .int .i64 p] 35)).heap.size := hA.size
  have HT := Lib.hid (fun (W : World) (h : Below w.heap.size w W) => hT.below h)
  have HN := Lib.hid (one31 t _ (HT.out _ hA))
  clear hA hT
  go_enter Tryz.func33, Tryz.ntmps33
  go_wp2_with fail
  refine (HN.out).mono ?_
  rintro e w1 ⟨rfl, hb⟩
  have HB := Lib.hid (HA.out.trans (hb.mono hsz))
  clear hb
  go_wp2
  go_ret
  exact ⟨rfl, HB.out⟩
set_option maxRecDepth 100000 in
set_option maxHeartbeats 8000000 in
theorem tx36 (t : ByteArray) (hs : t.size ≤ 140737488355328) (kv : Value) (p : Int) (w : World) (hT : Tt w) : Calls Tryz.prog 33 #[.agg #[.int .i64 36, .string t, kv, .int .i64 p]] w fun e w' => e = .returned (.bool (maskB t)) ∧ Below w.heap.size w w' := by
  have hA : Below w.heap.size w (w.alloc (.cells #[.int .i64 36, .string t, kv, .int .i64 p] 35)) := (Below.refl _ w).alloc (Nat.le_refl _) _
  have HA := Lib.hid hA
  have hsz : w.heap.size ≤ (w.alloc (.cells #[.int .i64 36, .string t, kv, .int .i64 p] 35)).heap.size := hA.size
  have HT := Lib.hid (fun (W : World) (h : Below w.heap.size w W) => hT.below h)
  have HN := Lib.hid (mask_any t hs _ (HT.out _ hA).tm)
  clear hA hT
  go_enter Tryz.func33, Tryz.ntmps33
  go_wp2_with fail
  refine (HN.out).mono ?_
  rintro e w1 ⟨rfl, hb⟩
  have HB := Lib.hid (HA.out.trans (hb.mono hsz))
  clear hb
  go_wp2
  go_ret
  exact ⟨rfl, HB.out⟩
set_option maxRecDepth 100000 in
set_option maxHeartbeats 8000000 in
theorem txElse (t : ByteArray) (_hs : t.size ≤ 140737488355328) (k : Int) (h2 : ¬ k = 2) (h4 : ¬ k = 4) (h5 : ¬ k = 5) (h17 : ¬ k = 17) (h23 : ¬ k = 23) (h18 : ¬ k = 18) (h25 : ¬ k = 25) (h33 : ¬ k = 33) (h14 : ¬ k = 14) (h15 : ¬ k = 15) (h16 : ¬ k = 16) (h21 : ¬ k = 21) (h27 : ¬ k = 27) (h28 : ¬ k = 28) (h31 : ¬ k = 31) (h36 : ¬ k = 36) (kv : Value) (p : Int) (w : World) (hT : Tt w) : Calls Tryz.prog 33 #[.agg #[.int .i64 k, .string t, kv, .int .i64 p]] w fun e w' => e = .returned (.bool (decide (t.size = 0))) ∧ Below w.heap.size w w' := by
  have hA : Below w.heap.size w (w.alloc (.cells #[.int .i64 k, .string t, kv, .int .i64 p] 35)) := (Below.refl _ w).alloc (Nat.le_refl _) _
  have HA := Lib.hid hA
  have hsz : w.heap.size ≤ (w.alloc (.cells #[.int .i64 k, .string t, kv, .int .i64 p] 35)).heap.size := hA.size
  have HT := Lib.hid (fun (W : World) (h : Below w.heap.size w W) => hT.below h)
  have he : decide (t.size = 0) = t.toList.isEmpty := by
    rw [ByteArray.toList_eq]
    by_cases h : t.size = 0
    · have : t.data.toList = [] := List.eq_nil_of_length_eq_zero h
      rw [this, decide_eq_true h]
      rfl
    · have h2 : t.data.toList ≠ [] := fun e => h (by have := congrArg List.length e; simpa using this)
      rw [decide_eq_false h]
      cases e : t.data.toList with
      | nil => exact absurd e h2
      | cons c r => rfl
  clear hA hT HT
  go_enter Tryz.func33, Tryz.ntmps33
  go_wp2
  go_ret
  exact ⟨by rw [he]; rfl, HA.out⟩
set_option maxRecDepth 100000 in
set_option maxHeartbeats 8000000 in
theorem tx2 (t : ByteArray) (hs : t.size ≤ 140737488355328) (kv : Value) (p : Int) (w : World) (hT : Tt w) : Calls Tryz.prog 33 #[.agg #[.int .i64 2, .string t, kv, .int .i64 p]] w fun e w' => e = .returned (.bool (chanB t)) ∧ Below w.heap.size w w' := by
  have hA : Below w.heap.size w (w.alloc (.cells #[.int .i64 2, .string t, kv, .int .i64 p] 35)) := (Below.refl _ w).alloc (Nat.le_refl _) _
  have HA := Lib.hid hA
  have hsz : w.heap.size ≤ (w.alloc (.cells #[.int .i64 2, .string t, kv, .int .i64 p] 35)).heap.size := hA.size
  have HT := Lib.hid (fun (W : World) (h : Below w.heap.size w W) => hT.below h)
  have HN := Lib.hid (fun (W : World) (h : Below w.heap.size w W) => mask_any (t.extract 2 t.size) (by simp; omega) W (HT.out W h).tm)
  unfold chanB
  generalize maskB (t.extract 2 t.size) = mb at HN ⊢
  clear hA hT
  by_cases h2 : 2 < t.size
  · have h2i : (2 : Int) < (t.size : Int) := by omega
    have hz : 0 < t.size := by omega
    have hz1 : 1 < t.size := by omega
    have hi0 : (0 : Int) < (t.size : Int) := by omega
    have hi1 : (1 : Int) < (t.size : Int) := by omega
    have hi2 : (2 : Int) ≤ (t.size : Int) := by omega
    rw [byte0 hz, byte1 hz1, decide_eq_true h2]
    by_cases a0 : (48 : Int) ≤ ((t[0]'hz).toNat : Int)
    · by_cases a1 : ((t[0]'hz).toNat : Int) ≤ 55
      · by_cases a2 : ((t[1]'hz1).toNat : Int) = 32
        · rw [decide_eq_true (show 48 ≤ (t[0]'hz).toNat by omega), decide_eq_true (show (t[0]'hz).toNat ≤ 55 by omega), decide_eq_true (show (t[1]'hz1).toNat = 32 by omega)]
          simp only [Bool.true_and]
          go_enter Tryz.func33, Tryz.ntmps33
          go_wp2_with fail
          refine (HN.out _ HA.out).mono ?_
          rintro e w1 ⟨rfl, hb⟩
          have HB := Lib.hid (HA.out.trans (hb.mono hsz))
          clear hb
          go_wp2
          go_ret
          exact ⟨rfl, HB.out⟩
        · rw [decide_eq_false (show ¬ (t[1]'hz1).toNat = 32 by omega)]
          simp only [Bool.false_and, Bool.and_false]
          go_enter Tryz.func33, Tryz.ntmps33
          go_wp2
          go_ret
          exact ⟨rfl, HA.out⟩
      · rw [decide_eq_false (show ¬ (t[0]'hz).toNat ≤ 55 by omega)]
        simp only [Bool.false_and, Bool.and_false]
        go_enter Tryz.func33, Tryz.ntmps33
        go_wp2
        go_ret
        exact ⟨rfl, HA.out⟩
    · rw [decide_eq_false (show ¬ 48 ≤ (t[0]'hz).toNat by omega)]
      simp only [Bool.false_and, Bool.and_false]
      go_enter Tryz.func33, Tryz.ntmps33
      go_wp2
      go_ret
      exact ⟨rfl, HA.out⟩
  · have h2i : ¬ (2 : Int) < (t.size : Int) := by omega
    rw [decide_eq_false h2]
    simp only [Bool.false_and]
    go_enter Tryz.func33, Tryz.ntmps33
    go_wp2
    go_ret
    exact ⟨rfl, HA.out⟩
theorem textFits_any (x : Nd) (hs : x.text.size ≤ 140737488355328) (kv : Value) (w : World) (hT : Tt w) : Calls Tryz.prog 33 #[.agg #[.int .i64 x.kind, .string x.text, kv, .int .i64 x.pos]] w fun e w' => e = .returned (.bool (textB x)) ∧ Below w.heap.size w w' := by
  obtain ⟨k, t, ks, p⟩ := x
  simp only at *
  by_cases h2 : k = 2
  · subst h2
    exact tx2 t hs kv p w hT
  by_cases h4 : k = 4
  · subst h4
    exact tx4 t hs kv p w hT
  by_cases h5 : k = 5
  · subst h5
    exact tx5 t hs kv p w hT
  by_cases h17 : k = 17
  · subst h17
    exact tx17 t hs kv p w hT
  by_cases h23 : k = 23
  · subst h23
    exact tx23 t hs kv p w hT
  by_cases h18 : k = 18
  · subst h18
    exact tx18 t hs kv p w hT
  by_cases h25 : k = 25
  · subst h25
    exact tx25 t hs kv p w hT
  by_cases h33 : k = 33
  · subst h33
    exact tx33 t hs kv p w hT
  by_cases h14 : k = 14
  · subst h14
    exact tx14 t hs kv p w hT
  by_cases h15 : k = 15
  · subst h15
    exact tx15 t hs kv p w hT
  by_cases h16 : k = 16
  · subst h16
    exact tx16 t hs kv p w hT
  by_cases h21 : k = 21
  · subst h21
    exact tx21 t hs kv p w hT
  by_cases h27 : k = 27
  · subst h27
    exact tx27 t hs kv p w hT
  by_cases h28 : k = 28
  · subst h28
    exact tx28 t hs kv p w hT
  by_cases h31 : k = 31
  · subst h31
    exact tx31 t hs kv p w hT
  by_cases h36 : k = 36
  · subst h36
    exact tx36 t hs kv p w hT
  have he : textB ⟨k, t, ks, p⟩ = decide (t.size = 0) := by simp [textB, h2, h4, h5, h17, h23, h18, h25, h33, h14, h15, h16, h21, h27, h28, h31, h36]
  rw [he]
  exact txElse t hs k h2 h4 h5 h17 h23 h18 h25 h33 h14 h15 h16 h21 h27 h28 h31 h36 kv p w hT
end TreeD
end Go.Proofs.YtakdmlaecidjaaaGreatDoor
