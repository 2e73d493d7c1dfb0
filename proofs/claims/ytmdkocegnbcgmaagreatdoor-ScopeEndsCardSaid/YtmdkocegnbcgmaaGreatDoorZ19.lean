/- Texts: the program's. -/
import Derived.Test.YtmdkocegnbcgmaaGreatDoorZ17
import Derived.Test.YtmdkocegnbcgmaaGreatDoorZ18
import Derived.Lib.Fields
import Derived.Test.YtmdkocegnbcgmaaGreatDoorZ15
import Derived.Deep.RegionHeld3
namespace Go.Proofs.YtmdkocegnbcgmaaGreatDoor
open Go.RowKit ObjM
namespace TreeD

/-- What the program's and the library's texts lay. -/
structure Tt (w : World) : Prop where
  wt : LexD.WTabN w
  tm : Tm w
  sp : Lib.TabIs Tryz.prog w "strings.asciiSpace" .u8 Lib.asciiSpaceTab
theorem gSp : Tryz.prog.globalNamed "strings.asciiSpace" = some 3 := by kernel_rfl
theorem Tt.below {w w' : World} (h : Tt w) (hb : Below w.heap.size w w') : Tt w' := ⟨h.wt.below hb, h.tm.below hb, NumD.TabIs_below gSp h.sp hb⟩
theorem same_text (s t : ByteArray) : (s.toList == t.toList) = (s.data.toList == t.data.toList) := by
  rw [ByteArray.toList_eq, ByteArray.toList_eq]
def memD (L : List (List UInt8)) (t : ByteArray) : Bool := L.any fun x => x == t.data.toList
theorem memD_drop {L : List (List UInt8)} {k : Nat} {t : ByteArray} (hk : k < L.length) : memD (L.drop k) t = ((L[k] == t.data.toList) || memD (L.drop (k + 1)) t) := by
  unfold memD
  rw [List.drop_eq_getElem_cons hk, List.any_cons]
theorem memD_eq (L : List ByteArray) (t : ByteArray) : memD (L.map fun s => s.data.toList) t = memB L t := by
  unfold memD memB
  rw [List.any_map]
  rfl
set_option maxRecDepth 100000 in
set_option maxHeartbeats 4000000 in
theorem oneOf_any (t ws : ByteArray) (L : List (List UInt8)) (hL : Lib.fields ws.data.toList = L) (hlen : L.length ≤ 100) (hz : ws.size ≤ 1000) (hasc : ∀ (j : Nat) b, ws.data.toList[j]? = some b → b.toNat < 128) (w : World) (hT : Lib.TabIs Tryz.prog w "strings.asciiSpace" .u8 Lib.asciiSpaceTab) :
    Calls Tryz.prog 110 #[.string t, .string ws] w fun e w' => e = .returned (.bool (memD L t)) ∧ Below w.heap.size w w' := by
  have HF := Lib.hid (Tryz.strings_Fields ws w (by omega) hasc hT)
  rw [hL] at HF
  obtain ⟨R, hR⟩ : ∃ R, memD L t = R := ⟨_, rfl⟩
  rw [hR]
  have HR0 : Hid (memD (L.drop 0) t = R) := Lib.hid hR
  obtain ⟨m, hm⟩ : ∃ m, L.length = m := ⟨_, rfl⟩
  have HM := Lib.hid hm
  rw [hm] at HF hlen
  have HA : Hid (Has (w.alloc (.cells (L.map fun l => Value.string ⟨l.toArray⟩).toArray 9)) w.heap.size 9 (L.map fun l => Value.string ⟨l.toArray⟩)) := Lib.hid (Has.new w _ _)
  have HB : Hid (Below w.heap.size w (w.alloc (.cells (L.map fun l => Value.string ⟨l.toArray⟩).toArray 9))) := Lib.hid ((Below.refl _ w).alloc (Nat.le_refl _) _)
  clear hL hR hm hT hasc hz
  go_enter Tryz.func110, Tryz.ntmps110
  go_wp2_with fail
  refine (HF.out).mono ?_
  rintro e w1 ⟨rfl, hw⟩
  rw [← hw] at HA HB
  clear hw HF
  generalize w.heap.size = K at HA ⊢
  go_wp2
  go_loopw [10] (fun i wr => ∃ k : Nat, i = .int .i64 (k : Int) ∧ k ≤ m ∧ Hid (wr = w1) ∧ Hid (memD (L.drop k) t = R)) (fun i _ => m - (intOf i).toNat)
  case atStart => exact ⟨0, rfl, by omega, Lib.hid rfl, HR0⟩
  case round =>
    obtain ⟨k, rfl, hk, HW, HR⟩ := hrel
    obtain rfl := HW.out
    clear HW
    by_cases hlt : k < m
    · have hk1 : (k : Int) < (m : Int) := by omega
      have hkL : k < L.length := by rw [HM.out]; exact hlt
      have HD := Lib.hid (memD_drop (t := t) hkL)
      have hc := (HA.out.cell k).trans (show (L.map fun l => Value.string ⟨l.toArray⟩)[k]? = some (.string ⟨L[k].toArray⟩) by rw [List.getElem?_map, List.getElem?_eq_getElem hkL]; rfl)
      have hl := HA.out.lt
      obtain ⟨x, hx⟩ : ∃ x : ByteArray, (⟨L[k].toArray⟩ : ByteArray) = x := ⟨_, rfl⟩
      have hxl : x.data.toList = L[k] := by rw [← hx]
      rw [← hxl, ← same_text] at HD
      rw [hx] at hc
      obtain ⟨bb, hbb⟩ : ∃ bb, (x.toList == t.toList) = bb := ⟨_, rfl⟩
      rw [hbb] at HD
      clear hx hxl
      cases bb
      · have HR2 : Hid (memD (L.drop (k + 1)) t = R) := Lib.hid (by rw [← HR.out, HD.out]; rfl)
        clear HR HD
        go_wp2
        go_roundw
        case rel => exact ⟨k + 1, by go_num, by omega, (by first | exact Lib.hid rfl | exact Lib.hid trivial), HR2⟩
        case measure => simp [intOf]; omega
      · have hRt : R = true := by rw [← HR.out, HD.out]; rfl
        subst hRt
        clear HR HD
        go_wp2
        go_ret
        exact ⟨rfl, HB.out⟩
    · have hRf : R = false := by
        rw [← HR.out, List.drop_eq_nil_of_le (by rw [HM.out]; omega)]
        rfl
      have hkm : k = m := by omega
      subst hRf hkm
      go_wp2
      go_ret
      exact ⟨rfl, HB.out⟩
theorem one27 (t : ByteArray) (w : World) (hT : Tt w) : Calls Tryz.prog 110 #[.string t, .string ⟨#[43, 32, 45, 32, 42, 32, 47, 47, 32, 37, 32, 46, 46, 32, 61, 61, 32, 126, 61, 32, 60, 32, 60, 61, 32, 62, 32, 62, 61]⟩] w fun e w' => e = .returned (.bool (memB BINS t)) ∧ Below w.heap.size w w' := by
  rw [← memD_eq]
  exact oneOf_any t _ _ (by decide +kernel) (by decide) (by decide) (by
    intro j b hb
    have h : ∀ c ∈ (⟨#[43, 32, 45, 32, 42, 32, 47, 47, 32, 37, 32, 46, 46, 32, 61, 61, 32, 126, 61, 32, 60, 32, 60, 61, 32, 62, 32, 62, 61]⟩ : ByteArray).data.toList, c.toNat < 128 := by decide
    exact h b (List.mem_of_getElem? hb)) w hT.sp
theorem one28 (t : ByteArray) (w : World) (hT : Tt w) : Calls Tryz.prog 110 #[.string t, .string ⟨#[45, 32, 110, 111, 116, 32, 35]⟩] w fun e w' => e = .returned (.bool (memB UNS t)) ∧ Below w.heap.size w w' := by
  rw [← memD_eq]
  exact oneOf_any t _ _ (by decide +kernel) (by decide) (by decide) (by
    intro j b hb
    have h : ∀ c ∈ (⟨#[45, 32, 110, 111, 116, 32, 35]⟩ : ByteArray).data.toList, c.toNat < 128 := by decide
    exact h b (List.mem_of_getElem? hb)) w hT.sp
theorem one31 (t : ByteArray) (w : World) (hT : Tt w) : Calls Tryz.prog 110 #[.string t, .string ⟨#[97, 110, 121, 32, 110, 105, 108, 32, 98, 111, 111, 108, 32, 105, 110, 116, 32, 115, 116, 114, 105, 110, 103, 32, 116, 97, 98, 108, 101, 32, 116, 104, 114, 101, 97, 100]⟩] w fun e w' => e = .returned (.bool (memB TYS t)) ∧ Below w.heap.size w w' := by
  rw [← memD_eq]
  exact oneOf_any t _ _ (by decide +kernel) (by decide) (by decide) (by
    intro j b hb
    have h : ∀ c ∈ (⟨#[97, 110, 121, 32, 110, 105, 108, 32, 98, 111, 111, 108, 32, 105, 110, 116, 32, 115, 116, 114, 105, 110, 103, 32, 116, 97, 98, 108, 101, 32, 116, 104, 114, 101, 97, 100]⟩ : ByteArray).data.toList, c.toNat < 128 := by decide
    exact h b (List.mem_of_getElem? hb)) w hT.sp
theorem decF_range : ∀ (l : List UInt8) (n : Int), 0 ≤ n → n ≤ 9223372036854775807 → 0 ≤ (NumM.decF l n).1 ∧ (NumM.decF l n).1 ≤ 9223372036854775807
  | [], n, h0, h1 => ⟨h0, h1⟩
  | c :: r, n, h0, h1 => by
    have hd := NumM.digV_lo (c.toNat : Int)
    rw [NumM.decF]
    split
    · exact ⟨by decide, by decide⟩
    · rename_i hc
      exact decF_range r _ (by omega) (by omega)
theorem hexF_range : ∀ (l : List UInt8) (n : Int), -9223372036854775808 ≤ n → n ≤ 9223372036854775807 → -9223372036854775808 ≤ (NumM.hexF l n).1 ∧ (NumM.hexF l n).1 ≤ 9223372036854775807
  | [], n, h0, h1 => ⟨h0, h1⟩
  | c :: r, n, h0, h1 => by
    rw [NumM.hexF]
    split
    · exact ⟨by decide, by decide⟩
    · exact hexF_range r _ (NumM.w64_lo _) (NumM.w64_hi _)
theorem num_range (l : List UInt8) : -9223372036854775808 ≤ (NumM.numV l).1 ∧ (NumM.numV l).1 ≤ 9223372036854775807 := by
  unfold NumM.numV
  split
  · unfold NumM.hexV
    split
    · exact ⟨by decide, by decide⟩
    · exact hexF_range _ _ (by decide) (by decide)
  · unfold NumM.decV
    split
    · exact ⟨by decide, by decide⟩
    · have := decF_range l 0 (by decide) (by decide)
      omega
theorem byte1 {s : ByteArray} (h : 1 < s.size) : byteAt s 1 = (s[1]'h).toNat := by
  unfold byteAt
  have h2 : 1 < s.data.toList.length := h
  rw [List.getD_eq_getElem?_getD, List.getElem?_eq_getElem h2]
  rfl
set_option maxRecDepth 100000 in
set_option maxHeartbeats 8000000 in
theorem tx18 (t : ByteArray) (hs : t.size ≤ 140737488355328) (kv : Value) (p : Int) (w : World) (hT : Tt w) : Calls Tryz.prog 94 #[.agg #[.int .i64 18, .string t, kv, .int .i64 p]] w fun e w' => e = .returned (.bool (LexD.nameB t)) ∧ Below w.heap.size w w' := by
  have hA : Below w.heap.size w (w.alloc (.cells #[.int .i64 18, .string t, kv, .int .i64 p] 40)) := (Below.refl _ w).alloc (Nat.le_refl _) _
  have HA := Lib.hid hA
  have hsz : w.heap.size ≤ (w.alloc (.cells #[.int .i64 18, .string t, kv, .int .i64 p] 40)).heap.size := hA.size
  have HT := Lib.hid (fun (W : World) (h : Below w.heap.size w W) => hT.below h)
  have HN := Lib.hid (LexD.name_fn t hs _ (HT.out _ hA).wt)
  clear hA hT
  go_enter Tryz.func94, Tryz.ntmps94
  go_wp2_with fail
  refine (HN.out).mono ?_
  rintro e w1 ⟨rfl, hb⟩
  have HB := Lib.hid (HA.out.trans (hb.mono hsz))
  clear hb
  go_wp2
  go_ret
  exact ⟨rfl, HB.out⟩
set_option maxRecDepth 100000 in
set_option maxHeartbeats 8000000 in
theorem tx25 (t : ByteArray) (hs : t.size ≤ 140737488355328) (kv : Value) (p : Int) (w : World) (hT : Tt w) : Calls Tryz.prog 94 #[.agg #[.int .i64 25, .string t, kv, .int .i64 p]] w fun e w' => e = .returned (.bool (LexD.nameB t)) ∧ Below w.heap.size w w' := by
  have hA : Below w.heap.size w (w.alloc (.cells #[.int .i64 25, .string t, kv, .int .i64 p] 40)) := (Below.refl _ w).alloc (Nat.le_refl _) _
  have HA := Lib.hid hA
  have hsz : w.heap.size ≤ (w.alloc (.cells #[.int .i64 25, .string t, kv, .int .i64 p] 40)).heap.size := hA.size
  have HT := Lib.hid (fun (W : World) (h : Below w.heap.size w W) => hT.below h)
  have HN := Lib.hid (LexD.name_fn t hs _ (HT.out _ hA).wt)
  clear hA hT
  go_enter Tryz.func94, Tryz.ntmps94
  go_wp2_with fail
  refine (HN.out).mono ?_
  rintro e w1 ⟨rfl, hb⟩
  have HB := Lib.hid (HA.out.trans (hb.mono hsz))
  clear hb
  go_wp2
  go_ret
  exact ⟨rfl, HB.out⟩
set_option maxRecDepth 100000 in
set_option maxHeartbeats 8000000 in
theorem tx33 (t : ByteArray) (hs : t.size ≤ 140737488355328) (kv : Value) (p : Int) (w : World) (hT : Tt w) : Calls Tryz.prog 94 #[.agg #[.int .i64 33, .string t, kv, .int .i64 p]] w fun e w' => e = .returned (.bool (LexD.nameB t)) ∧ Below w.heap.size w w' := by
  have hA : Below w.heap.size w (w.alloc (.cells #[.int .i64 33, .string t, kv, .int .i64 p] 40)) := (Below.refl _ w).alloc (Nat.le_refl _) _
  have HA := Lib.hid hA
  have hsz : w.heap.size ≤ (w.alloc (.cells #[.int .i64 33, .string t, kv, .int .i64 p] 40)).heap.size := hA.size
  have HT := Lib.hid (fun (W : World) (h : Below w.heap.size w W) => hT.below h)
  have HN := Lib.hid (LexD.name_fn t hs _ (HT.out _ hA).wt)
  clear hA hT
  go_enter Tryz.func94, Tryz.ntmps94
  go_wp2_with fail
  refine (HN.out).mono ?_
  rintro e w1 ⟨rfl, hb⟩
  have HB := Lib.hid (HA.out.trans (hb.mono hsz))
  clear hb
  go_wp2
  go_ret
  exact ⟨rfl, HB.out⟩
set_option maxRecDepth 100000 in
set_option maxHeartbeats 8000000 in
theorem tx4 (t : ByteArray) (hs : t.size ≤ 140737488355328) (kv : Value) (p : Int) (w : World) (hT : Tt w) : Calls Tryz.prog 94 #[.agg #[.int .i64 4, .string t, kv, .int .i64 p]] w fun e w' => e = .returned (.bool (freeB t)) ∧ Below w.heap.size w w' := by
  have hA : Below w.heap.size w (w.alloc (.cells #[.int .i64 4, .string t, kv, .int .i64 p] 40)) := (Below.refl _ w).alloc (Nat.le_refl _) _
  have HA := Lib.hid hA
  have hsz : w.heap.size ≤ (w.alloc (.cells #[.int .i64 4, .string t, kv, .int .i64 p] 40)).heap.size := hA.size
  have HT := Lib.hid (fun (W : World) (h : Below w.heap.size w W) => hT.below h)
  have HN := Lib.hid (LexD.name_fn t hs _ (HT.out _ hA).wt)
  have HBu := fun W => Lib.hid (builtin_any t W)
  unfold freeB
  generalize builtinV t = v at HBu ⊢
  generalize LexD.nameB t = nb at HN ⊢
  clear hA hT
  cases nb
  · go_enter Tryz.func94, Tryz.ntmps94
    go_wp2_with fail
    refine (HN.out).mono ?_
    rintro e w1 ⟨rfl, hb⟩
    have HB := Lib.hid (HA.out.trans (hb.mono hsz))
    clear hb
    go_wp2
    go_ret
    exact ⟨rfl, HB.out⟩
  · go_enter Tryz.func94, Tryz.ntmps94
    go_wp2_with fail
    refine (HN.out).mono ?_
    rintro e w1 ⟨rfl, hb⟩
    have HB := Lib.hid (HA.out.trans (hb.mono hsz))
    clear hb
    go_wp2_with fail
    refine ((HBu _).out).mono ?_
    rintro e w2 ⟨rfl, rfl⟩
    go_wp2
    go_ret
    exact ⟨rfl, HB.out⟩
set_option maxRecDepth 100000 in
set_option maxHeartbeats 8000000 in
theorem tx5 (t : ByteArray) (hs : t.size ≤ 140737488355328) (kv : Value) (p : Int) (w : World) (hT : Tt w) : Calls Tryz.prog 94 #[.agg #[.int .i64 5, .string t, kv, .int .i64 p]] w fun e w' => e = .returned (.bool (freeB t)) ∧ Below w.heap.size w w' := by
  have hA : Below w.heap.size w (w.alloc (.cells #[.int .i64 5, .string t, kv, .int .i64 p] 40)) := (Below.refl _ w).alloc (Nat.le_refl _) _
  have HA := Lib.hid hA
  have hsz : w.heap.size ≤ (w.alloc (.cells #[.int .i64 5, .string t, kv, .int .i64 p] 40)).heap.size := hA.size
  have HT := Lib.hid (fun (W : World) (h : Below w.heap.size w W) => hT.below h)
  have HN := Lib.hid (LexD.name_fn t hs _ (HT.out _ hA).wt)
  have HBu := fun W => Lib.hid (builtin_any t W)
  unfold freeB
  generalize builtinV t = v at HBu ⊢
  generalize LexD.nameB t = nb at HN ⊢
  clear hA hT
  cases nb
  · go_enter Tryz.func94, Tryz.ntmps94
    go_wp2_with fail
    refine (HN.out).mono ?_
    rintro e w1 ⟨rfl, hb⟩
    have HB := Lib.hid (HA.out.trans (hb.mono hsz))
    clear hb
    go_wp2
    go_ret
    exact ⟨rfl, HB.out⟩
  · go_enter Tryz.func94, Tryz.ntmps94
    go_wp2_with fail
    refine (HN.out).mono ?_
    rintro e w1 ⟨rfl, hb⟩
    have HB := Lib.hid (HA.out.trans (hb.mono hsz))
    clear hb
    go_wp2_with fail
    refine ((HBu _).out).mono ?_
    rintro e w2 ⟨rfl, rfl⟩
    go_wp2
    go_ret
    exact ⟨rfl, HB.out⟩
set_option maxRecDepth 100000 in
set_option maxHeartbeats 8000000 in
theorem tx17 (t : ByteArray) (hs : t.size ≤ 140737488355328) (kv : Value) (p : Int) (w : World) (hT : Tt w) : Calls Tryz.prog 94 #[.agg #[.int .i64 17, .string t, kv, .int .i64 p]] w fun e w' => e = .returned (.bool (freeB t)) ∧ Below w.heap.size w w' := by
  have hA : Below w.heap.size w (w.alloc (.cells #[.int .i64 17, .string t, kv, .int .i64 p] 40)) := (Below.refl _ w).alloc (Nat.le_refl _) _
  have HA := Lib.hid hA
  have hsz : w.heap.size ≤ (w.alloc (.cells #[.int .i64 17, .string t, kv, .int .i64 p] 40)).heap.size := hA.size
  have HT := Lib.hid (fun (W : World) (h : Below w.heap.size w W) => hT.below h)
  have HN := Lib.hid (LexD.name_fn t hs _ (HT.out _ hA).wt)
  have HBu := fun W => Lib.hid (builtin_any t W)
  unfold freeB
  generalize builtinV t = v at HBu ⊢
  generalize LexD.nameB t = nb at HN ⊢
  clear hA hT
  cases nb
  · go_enter Tryz.func94, Tryz.ntmps94
    go_wp2_with fail
    refine (HN.out).mono ?_
    rintro e w1 ⟨rfl, hb⟩
    have HB := Lib.hid (HA.out.trans (hb.mono hsz))
    clear hb
    go_wp2
    go_ret
    exact ⟨rfl, HB.out⟩
  · go_enter Tryz.func94, Tryz.ntmps94
    go_wp2_with fail
    refine (HN.out).mono ?_
    rintro e w1 ⟨rfl, hb⟩
    have HB := Lib.hid (HA.out.trans (hb.mono hsz))
    clear hb
    go_wp2_with fail
    refine ((HBu _).out).mono ?_
    rintro e w2 ⟨rfl, rfl⟩
    go_wp2
    go_ret
    exact ⟨rfl, HB.out⟩
set_option maxRecDepth 100000 in
set_option maxHeartbeats 8000000 in
theorem tx23 (t : ByteArray) (hs : t.size ≤ 140737488355328) (kv : Value) (p : Int) (w : World) (hT : Tt w) : Calls Tryz.prog 94 #[.agg #[.int .i64 23, .string t, kv, .int .i64 p]] w fun e w' => e = .returned (.bool (freeB t)) ∧ Below w.heap.size w w' := by
  have hA : Below w.heap.size w (w.alloc (.cells #[.int .i64 23, .string t, kv, .int .i64 p] 40)) := (Below.refl _ w).alloc (Nat.le_refl _) _
  have HA := Lib.hid hA
  have hsz : w.heap.size ≤ (w.alloc (.cells #[.int .i64 23, .string t, kv, .int .i64 p] 40)).heap.size := hA.size
  have HT := Lib.hid (fun (W : World) (h : Below w.heap.size w W) => hT.below h)
  have HN := Lib.hid (LexD.name_fn t hs _ (HT.out _ hA).wt)
  have HBu := fun W => Lib.hid (builtin_any t W)
  unfold freeB
  generalize builtinV t = v at HBu ⊢
  generalize LexD.nameB t = nb at HN ⊢
  clear hA hT
  cases nb
  · go_enter Tryz.func94, Tryz.ntmps94
    go_wp2_with fail
    refine (HN.out).mono ?_
    rintro e w1 ⟨rfl, hb⟩
    have HB := Lib.hid (HA.out.trans (hb.mono hsz))
    clear hb
    go_wp2
    go_ret
    exact ⟨rfl, HB.out⟩
  · go_enter Tryz.func94, Tryz.ntmps94
    go_wp2_with fail
    refine (HN.out).mono ?_
    rintro e w1 ⟨rfl, hb⟩
    have HB := Lib.hid (HA.out.trans (hb.mono hsz))
    clear hb
    go_wp2_with fail
    refine ((HBu _).out).mono ?_
    rintro e w2 ⟨rfl, rfl⟩
    go_wp2
    go_ret
    exact ⟨rfl, HB.out⟩
set_option maxRecDepth 100000 in
set_option maxHeartbeats 8000000 in
theorem tx14 (t : ByteArray) (_hs : t.size ≤ 140737488355328) (kv : Value) (p : Int) (w : World) (hT : Tt w) : Calls Tryz.prog 94 #[.agg #[.int .i64 14, .string t, kv, .int .i64 p]] w fun e w' => e = .returned (.bool (memB BOOLS t)) ∧ Below w.heap.size w w' := by
  have hA : Below w.heap.size w (w.alloc (.cells #[.int .i64 14, .string t, kv, .int .i64 p] 40)) := (Below.refl _ w).alloc (Nat.le_refl _) _
  have HA := Lib.hid hA
  have hsz : w.heap.size ≤ (w.alloc (.cells #[.int .i64 14, .string t, kv, .int .i64 p] 40)).heap.size := hA.size
  have HT := Lib.hid (fun (W : World) (h : Below w.heap.size w W) => hT.below h)
  have hm : memB BOOLS t = ((t.toList == [116, 114, 117, 101]) || (t.toList == [102, 97, 108, 115, 101])) := by
    unfold memB BOOLS
    rw [ByteArray.toList_eq]
    simp only [List.any_cons, List.any_nil, Bool.or_false]
    rw [Bool.beq_comm (a := t.data.toList), Bool.beq_comm (a := t.data.toList)]
  rw [hm]
  obtain ⟨b1, h1⟩ : ∃ b, (t.toList == [116, 114, 117, 101]) = b := ⟨_, rfl⟩
  obtain ⟨b2, h2⟩ : ∃ b, (t.toList == [102, 97, 108, 115, 101]) = b := ⟨_, rfl⟩
  rw [h1, h2]
  clear hm hA hT
  cases b1 <;> cases b2
  all_goals
    go_enter Tryz.func94, Tryz.ntmps94
    go_wp2
    go_ret
    exact ⟨rfl, HA.out⟩
set_option maxRecDepth 100000 in
set_option maxHeartbeats 8000000 in
theorem tx15 (t : ByteArray) (hs : t.size ≤ 140737488355328) (kv : Value) (p : Int) (w : World) (hT : Tt w) : Calls Tryz.prog 94 #[.agg #[.int .i64 15, .string t, kv, .int .i64 p]] w fun e w' => e = .returned (.bool (intB t)) ∧ Below w.heap.size w w' := by
  have hA : Below w.heap.size w (w.alloc (.cells #[.int .i64 15, .string t, kv, .int .i64 p] 40)) := (Below.refl _ w).alloc (Nat.le_refl _) _
  have HA := Lib.hid hA
  have hsz : w.heap.size ≤ (w.alloc (.cells #[.int .i64 15, .string t, kv, .int .i64 p] 40)).heap.size := hA.size
  have HT := Lib.hid (fun (W : World) (h : Below w.heap.size w W) => hT.below h)
  have hrange := num_range t.data.toList
  have HN := Lib.hid (NumD.number_any t (w.alloc (.cells #[.int .i64 15, .string t, kv, .int .i64 p] 40)) (by omega))
  unfold intB
  obtain ⟨v, hv⟩ : ∃ v, (NumM.numV t.data.toList).1 = v := ⟨_, rfl⟩
  obtain ⟨b, hb⟩ : ∃ b, (NumM.numV t.data.toList).2 = b := ⟨_, rfl⟩
  rw [hv] at hrange
  rw [hv, hb] at HN ⊢
  have HS := Lib.hid (fun (W : World) (h : Below w.heap.size w W) => NumD.show_any v hrange.1 hrange.2 W (HT.out W h).tm.tab)
  have HTe := Lib.hid (text_eq (Lib.itoa v) t)
  have hde : decide (Lib.itoa v = t.data.toList) = decide (t.data.toList = Lib.itoa v) := by rw [decide_eq_decide]; exact ⟨Eq.symm, Eq.symm⟩
  rw [hde]
  obtain ⟨r, hr⟩ : ∃ r, decide (t.data.toList = Lib.itoa v) = r := ⟨_, rfl⟩
  rw [hr] at HTe ⊢
  obtain ⟨x, hx⟩ : ∃ x : ByteArray, (⟨(Lib.itoa v).toArray⟩ : ByteArray) = x := ⟨_, rfl⟩
  rw [hx] at HTe HS
  have hte := HTe.out
  clear hA hT hr hx hv hb hde
  cases b
  · go_enter Tryz.func94, Tryz.ntmps94
    go_wp2_with fail
    refine (HN.out).mono ?_
    rintro e w1 ⟨rfl, hb⟩
    have HB := Lib.hid (HA.out.trans (hb.mono hsz))
    clear hb
    go_wp2
    go_ret
    exact ⟨rfl, HB.out⟩
  · go_enter Tryz.func94, Tryz.ntmps94
    go_wp2_with fail
    refine (HN.out).mono ?_
    rintro e w1 ⟨rfl, hb⟩
    have HB := Lib.hid (HA.out.trans (hb.mono hsz))
    clear hb
    go_wp2_with fail
    refine (HS.out _ HB.out).mono ?_
    rintro e w2 ⟨rfl, hb2⟩
    have HB2 := Lib.hid (HB.out.trans (hb2.mono HB.out.size))
    clear hb2
    go_wp2
    go_ret
    exact ⟨rfl, HB2.out⟩
set_option maxRecDepth 100000 in
set_option maxHeartbeats 8000000 in
theorem tx16 (t : ByteArray) (_hs : t.size ≤ 140737488355328) (kv : Value) (p : Int) (w : World) (hT : Tt w) : Calls Tryz.prog 94 #[.agg #[.int .i64 16, .string t, kv, .int .i64 p]] w fun e w' => e = .returned (.bool (true)) ∧ Below w.heap.size w w' := by
  have hA : Below w.heap.size w (w.alloc (.cells #[.int .i64 16, .string t, kv, .int .i64 p] 40)) := (Below.refl _ w).alloc (Nat.le_refl _) _
  have HA := Lib.hid hA
  have hsz : w.heap.size ≤ (w.alloc (.cells #[.int .i64 16, .string t, kv, .int .i64 p] 40)).heap.size := hA.size
  have HT := Lib.hid (fun (W : World) (h : Below w.heap.size w W) => hT.below h)
  clear hA hT HT
  go_enter Tryz.func94, Tryz.ntmps94
  go_wp2
  go_ret
  exact ⟨rfl, HA.out⟩
set_option maxRecDepth 100000 in
set_option maxHeartbeats 8000000 in
theorem tx21 (t : ByteArray) (_hs : t.size ≤ 140737488355328) (kv : Value) (p : Int) (w : World) (hT : Tt w) : Calls Tryz.prog 94 #[.agg #[.int .i64 21, .string t, kv, .int .i64 p]] w fun e w' => e = .returned (.bool (decide (0 ≤ builtinV t))) ∧ Below w.heap.size w w' := by
  have hA : Below w.heap.size w (w.alloc (.cells #[.int .i64 21, .string t, kv, .int .i64 p] 40)) := (Below.refl _ w).alloc (Nat.le_refl _) _
  have HA := Lib.hid hA
  have hsz : w.heap.size ≤ (w.alloc (.cells #[.int .i64 21, .string t, kv, .int .i64 p] 40)).heap.size := hA.size
  have HT := Lib.hid (fun (W : World) (h : Below w.heap.size w W) => hT.below h)
  have HBu := fun W => Lib.hid (builtin_any t W)
  generalize builtinV t = v at HBu ⊢
  clear hA hT HT
  go_enter Tryz.func94, Tryz.ntmps94
  go_wp2_with fail
  refine ((HBu _).out).mono ?_
  rintro e w2 ⟨rfl, rfl⟩
  go_wp2
  go_ret
  exact ⟨rfl, HA.out⟩
set_option maxRecDepth 100000 in
set_option maxHeartbeats 8000000 in
theorem tx27 (t : ByteArray) (_hs : t.size ≤ 140737488355328) (kv : Value) (p : Int) (w : World) (hT : Tt w) : Calls Tryz.prog 94 #[.agg #[.int .i64 27, .string t, kv, .int .i64 p]] w fun e w' => e = .returned (.bool (memB BINS t)) ∧ Below w.heap.size w w' := by
  have hA : Below w.heap.size w (w.alloc (.cells #[.int .i64 27, .string t, kv, .int .i64 p] 40)) := (Below.refl _ w).alloc (Nat.le_refl _) _
  have HA := Lib.hid hA
  have hsz : w.heap.size ≤ (w.alloc (.cells #[.int .i64 27, .string t, kv, .int .i64 p] 40)).heap.size := hA.size
  have HT := Lib.hid (fun (W : World) (h : Below w.heap.size w W) => hT.below h)
  have HN := Lib.hid (one27 t _ (HT.out _ hA))
  clear hA hT
  go_enter Tryz.func94, Tryz.ntmps94
  go_wp2_with fail
  refine (HN.out).mono ?_
  rintro e w1 ⟨rfl, hb⟩
  have HB := Lib.hid (HA.out.trans (hb.mono hsz))
  clear hb
  go_wp2
  go_ret
  exact ⟨rfl, HB.out⟩
set_option maxRecDepth 100000 in
set_option maxHeartbeats 8000000 in
theorem tx28 (t : ByteArray) (_hs : t.size ≤ 140737488355328) (kv : Value) (p : Int) (w : World) (hT : Tt w) : Calls Tryz.prog 94 #[.agg #[.int .i64 28, .string t, kv, .int .i64 p]] w fun e w' => e = .returned (.bool (memB UNS t)) ∧ Below w.heap.size w w' := by
  have hA : Below w.heap.size w (w.alloc (.cells #[.int .i64 28, .string t, kv, .int .i64 p] 40)) := (Below.refl _ w).alloc (Nat.le_refl _) _
  have HA := Lib.hid hA
  have hsz : w.heap.size ≤ (w.alloc (.cells #[.int .i64 28, .string t, kv, .int .i64 p] 40)).heap.size := hA.size
  have HT := Lib.hid (fun (W : World) (h : Below w.heap.size w W) => hT.below h)
  have HN := Lib.hid (one28 t _ (HT.out _ hA))
  clear hA hT
  go_enter Tryz.func94, Tryz.ntmps94
  go_wp2_with fail
  refine (HN.out).mono ?_
  rintro e w1 ⟨rfl, hb⟩
  have HB := Lib.hid (HA.out.trans (hb.mono hsz))
  clear hb
  go_wp2
  go_ret
  exact ⟨rfl, HB.out⟩
set_option maxRecDepth 100000 in
set_option maxHeartbeats 8000000 in
theorem tx31 (t : ByteArray) (_hs : t.size ≤ 140737488355328) (kv : Value) (p : Int) (w : World) (hT : Tt w) : Calls Tryz.prog 94 #[.agg #[.int .i64 31, .string t, kv, .int .i64 p]] w fun e w' => e = .returned (.bool (memB TYS t)) ∧ Below w.heap.size w w' := by
  have hA : Below w.heap.size w (w.alloc (.cells #[.int .i64 31, .string t, kv, .int .i64 p] 40)) := (Below.refl _ w).alloc (Nat.le_refl _) _
  have HA := Lib.hid hA
  have hsz : w.heap.size ≤ (w.alloc (.cells #[.int .i64 31, .string t, kv, .int .i64 p] 40)).heap.size := hA.size
  have HT := Lib.hid (fun (W : World) (h : Below w.heap.size w W) => hT.below h)
  have HN := Lib.hid (one31 t _ (HT.out _ hA))
  clear hA hT
  go_enter Tryz.func94, Tryz.ntmps94
  go_wp2_with fail
  refine (HN.out).mono ?_
  rintro e w1 ⟨rfl, hb⟩
  have HB := Lib.hid (HA.out.trans (hb.mono hsz))
  clear hb
  go_wp2
  go_ret
  exact ⟨rfl, HB.out⟩
set_option maxRecDepth 100000 in
set_option maxHeartbeats 8000000 in
theorem tx36 (t : ByteArray) (hs : t.size ≤ 140737488355328) (kv : Value) (p : Int) (w : World) (hT : Tt w) : Calls Tryz.prog 94 #[.agg #[.int .i64 36, .string t, kv, .int .i64 p]] w fun e w' => e = .returned (.bool (maskB t)) ∧ Below w.heap.size w w' := by
  have hA : Below w.heap.size w (w.alloc (.cells #[.int .i64 36, .string t, kv, .int .i64 p] 40)) := (Below.refl _ w).alloc (Nat.le_refl _) _
  have HA := Lib.hid hA
  have hsz : w.heap.size ≤ (w.alloc (.cells #[.int .i64 36, .string t, kv, .int .i64 p] 40)).heap.size := hA.size
  have HT := Lib.hid (fun (W : World) (h : Below w.heap.size w W) => hT.below h)
  have HN := Lib.hid (mask_any t hs _ (HT.out _ hA).tm)
  clear hA hT
  go_enter Tryz.func94, Tryz.ntmps94
  go_wp2_with fail
  refine (HN.out).mono ?_
  rintro e w1 ⟨rfl, hb⟩
  have HB := Lib.hid (HA.out.trans (hb.mono hsz))
  clear hb
  go_wp2
  go_ret
  exact ⟨rfl, HB.out⟩
set_option maxRecDepth 100000 in
set_option maxHeartbeats 8000000 in
theorem txElse (t : ByteArray) (_hs : t.size ≤ 140737488355328) (k : Int) (h2 : ¬ k = 2) (h4 : ¬ k = 4) (h5 : ¬ k = 5) (h17 : ¬ k = 17) (h23 : ¬ k = 23) (h18 : ¬ k = 18) (h25 : ¬ k = 25) (h33 : ¬ k = 33) (h14 : ¬ k = 14) (h15 : ¬ k = 15) (h16 : ¬ k = 16) (h21 : ¬ k = 21) (h27 : ¬ k = 27) (h28 : ¬ k = 28) (h31 : ¬ k = 31) (h36 : ¬ k = 36) (kv : Value) (p : Int) (w : World) (hT : Tt w) : Calls Tryz.prog 94 #[.agg #[.int .i64 k, .string t, kv, .int .i64 p]] w fun e w' => e = .returned (.bool (decide (t.size = 0))) ∧ Below w.heap.size w w' := by
  have hA : Below w.heap.size w (w.alloc (.cells #[.int .i64 k, .string t, kv, .int .i64 p] 40)) := (Below.refl _ w).alloc (Nat.le_refl _) _
  have HA := Lib.hid hA
  have hsz : w.heap.size ≤ (w.alloc (.cells #[.int .i64 k, .string t, kv, .int .i64 p] 40)).heap.size := hA.size
  have HT := Lib.hid (fun (W : World) (h : Below w.heap.size w W) => hT.below h)
  have he : decide (t.size = 0) = t.toList.isEmpty := by
    rw [ByteArray.toList_eq]
    by_cases h : t.size = 0
    · have : t.data.toList = [] := List.eq_nil_of_length_eq_zero h
      rw [this, decide_eq_true h]
      rfl
    · have h2 : t.data.toList ≠ [] := fun e => h (by have := congrArg List.length e; simpa using this)
      rw [decide_eq_false h]
      cases e : t.data.toList with
      | nil => exact absurd e h2
      | cons c r => rfl
  clear hA hT HT
  go_enter Tryz.func94, Tryz.ntmps94
  go_wp2
  go_ret
  exact ⟨by rw [he]; rfl, HA.out⟩
set_option maxRecDepth 100000 in
set_option maxHeartbeats 8000000 in
theorem tx2 (t : ByteArray) (hs : t.size ≤ 140737488355328) (kv : Value) (p : Int) (w : World) (hT : Tt w) : Calls Tryz.prog 94 #[.agg #[.int .i64 2, .string t, kv, .int .i64 p]] w fun e w' => e = .returned (.bool (chanB t)) ∧ Below w.heap.size w w' := by
  have hA : Below w.heap.size w (w.alloc (.cells #[.int .i64 2, .string t, kv, .int .i64 p] 40)) := (Below.refl _ w).alloc (Nat.le_refl _) _
  have HA := Lib.hid hA
  have hsz : w.heap.size ≤ (w.alloc (.cells #[.int .i64 2, .string t, kv, .int .i64 p] 40)).heap.size := hA.size
  have HT := Lib.hid (fun (W : World) (h : Below w.heap.size w W) => hT.below h)
  have HN := Lib.hid (fun (W : World) (h : Below w.heap.size w W) => mask_any (t.extract 2 t.size) (by simp; omega) W (HT.out W h).tm)
  unfold chanB
  generalize maskB (t.extract 2 t.size) = mb at HN ⊢
  clear hA hT
  by_cases h2 : 2 < t.size
  · have h2i : (2 : Int) < (t.size : Int) := by omega
    have hz : 0 < t.size := by omega
    have hz1 : 1 < t.size := by omega
    have hi0 : (0 : Int) < (t.size : Int) := by omega
    have hi1 : (1 : Int) < (t.size : Int) := by omega
    have hi2 : (2 : Int) ≤ (t.size : Int) := by omega
    rw [byte0 hz, byte1 hz1, decide_eq_true h2]
    by_cases a0 : (48 : Int) ≤ ((t[0]'hz).toNat : Int)
    · by_cases a1 : ((t[0]'hz).toNat : Int) ≤ 55
      · by_cases a2 : ((t[1]'hz1).toNat : Int) = 32
        · rw [decide_eq_true (show 48 ≤ (t[0]'hz).toNat by omega), decide_eq_true (show (t[0]'hz).toNat ≤ 55 by omega), decide_eq_true (show (t[1]'hz1).toNat = 32 by omega)]
          simp only [Bool.true_and]
          go_enter Tryz.func94, Tryz.ntmps94
          go_wp2_with fail
          refine (HN.out _ HA.out).mono ?_
          rintro e w1 ⟨rfl, hb⟩
          have HB := Lib.hid (HA.out.trans (hb.mono hsz))
          clear hb
          go_wp2
          go_ret
          exact ⟨rfl, HB.out⟩
        · rw [decide_eq_false (show ¬ (t[1]'hz1).toNat = 32 by omega)]
          simp only [Bool.false_and, Bool.and_false]
          go_enter Tryz.func94, Tryz.ntmps94
          go_wp2
          go_ret
          exact ⟨rfl, HA.out⟩
      · rw [decide_eq_false (show ¬ (t[0]'hz).toNat ≤ 55 by omega)]
        simp only [Bool.false_and, Bool.and_false]
        go_enter Tryz.func94, Tryz.ntmps94
        go_wp2
        go_ret
        exact ⟨rfl, HA.out⟩
    · rw [decide_eq_false (show ¬ 48 ≤ (t[0]'hz).toNat by omega)]
      simp only [Bool.false_and, Bool.and_false]
      go_enter Tryz.func94, Tryz.ntmps94
      go_wp2
      go_ret
      exact ⟨rfl, HA.out⟩
  · have h2i : ¬ (2 : Int) < (t.size : Int) := by omega
    rw [decide_eq_false h2]
    simp only [Bool.false_and]
    go_enter Tryz.func94, Tryz.ntmps94
    go_wp2
    go_ret
    exact ⟨rfl, HA.out⟩
theorem textFits_any (x : Nd) (hs : x.text.size ≤ 140737488355328) (kv : Value) (w : World) (hT : Tt w) : Calls Tryz.prog 94 #[.agg #[.int .i64 x.kind, .string x.text, kv, .int .i64 x.pos]] w fun e w' => e = .returned (.bool (textB x)) ∧ Below w.heap.size w w' := by
  obtain ⟨k, t, ks, p⟩ := x
  simp only at *
  by_cases h2 : k = 2
  · subst h2
    exact tx2 t hs kv p w hT
  by_cases h4 : k = 4
  · subst h4
    exact tx4 t hs kv p w hT
  by_cases h5 : k = 5
  · subst h5
    exact tx5 t hs kv p w hT
  by_cases h17 : k = 17
  · subst h17
    exact tx17 t hs kv p w hT
  by_cases h23 : k = 23
  · subst h23
    exact tx23 t hs kv p w hT
  by_cases h18 : k = 18
  · subst h18
    exact tx18 t hs kv p w hT
  by_cases h25 : k = 25
  · subst h25
    exact tx25 t hs kv p w hT
  by_cases h33 : k = 33
  · subst h33
    exact tx33 t hs kv p w hT
  by_cases h14 : k = 14
  · subst h14
    exact tx14 t hs kv p w hT
  by_cases h15 : k = 15
  · subst h15
    exact tx15 t hs kv p w hT
  by_cases h16 : k = 16
  · subst h16
    exact tx16 t hs kv p w hT
  by_cases h21 : k = 21
  · subst h21
    exact tx21 t hs kv p w hT
  by_cases h27 : k = 27
  · subst h27
    exact tx27 t hs kv p w hT
  by_cases h28 : k = 28
  · subst h28
    exact tx28 t hs kv p w hT
  by_cases h31 : k = 31
  · subst h31
    exact tx31 t hs kv p w hT
  by_cases h36 : k = 36
  · subst h36
    exact tx36 t hs kv p w hT
  have he : textB ⟨k, t, ks, p⟩ = decide (t.size = 0) := by simp [textB, h2, h4, h5, h17, h23, h18, h25, h33, h14, h15, h16, h21, h27, h28, h31, h36]
  rw [he]
  exact txElse t hs k h2 h4 h5 h17 h23 h18 h25 h33 h14 h15 h16 h21 h27 h28 h31 h36 kv p w hT
end TreeD
end Go.Proofs.YtmdkocegnbcgmaaGreatDoor
namespace Go.Proofs.YtmdkocegnbcgmaaGreatDoor
open Go.RowKit ObjM
namespace TreeD

def MINB : ByteArray := ⟨#[45, 57, 50, 50, 51, 51, 55, 50, 48, 51, 54, 56, 53, 52, 55, 55, 53, 56, 48, 56]⟩
theorem min_text : MINB.data.toList = Lib.itoa (-9223372036854775808) := by decide +kernel
theorem mask_min : maskB MINB = true := by
  unfold maskB
  simp only [decide_eq_true_eq]
  exact ⟨-9223372036854775808, by decide, by decide, min_text⟩
theorem itoa_neg' {n : Int} (h : n < 0) : Lib.itoa n = 45 :: Lib.decDigits n.natAbs := by unfold Lib.itoa; rw [if_pos h]
theorem itoa_pos {n : Int} (h : ¬ n < 0) : Lib.itoa n = Lib.decDigits n.toNat := by unfold Lib.itoa; rw [if_neg h]
theorem mask_minus {t : ByteArray} {r : List UInt8} (h0 : t ≠ MINB) (h : t.data.toList = 45 :: r) : maskB t = ((NumM.numV r).2 && (decide (Lib.itoa (NumM.numV r).1 = r) && !decide ((NumM.numV r).1 = 0))) := by
  have hb : ∀ {a b : Bool}, (a = true ↔ b = true) → a = b := fun {a b} h => by cases a <;> cases b <;> simp_all
  apply hb
  unfold maskB MaskP
  simp only [decide_eq_true_eq, Bool.and_eq_true, Bool.not_eq_true', decide_eq_false_iff_not]
  constructor
  · rintro ⟨n, n0, n1, e⟩
    rw [h] at e
    by_cases hn : n < 0
    · rw [itoa_neg' hn] at e
      injection e with _ e
      have hne : n ≠ -9223372036854775808 := by
        intro hm
        apply h0
        have h2 : t.data.toList = MINB.data.toList := by rw [h, e, min_text, hm, ← itoa_neg' (by decide)]
        cases t
        congr 1
        exact Array.ext' h2
      have hu : (n.natAbs : Int) ≤ 9223372036854775807 := by omega
      have hbk := NumM.num_back (n := (n.natAbs : Int)) (by omega) hu
      have hi : Lib.itoa (n.natAbs : Int) = r := by rw [itoa_pos (by omega), Int.toNat_natCast, ← e]
      rw [hi] at hbk
      rw [hbk]
      exact ⟨rfl, hi, by simp only; omega⟩
    · rw [itoa_pos hn] at e
      obtain ⟨c, q, hc, l1, l2⟩ := digits_head n.toNat
      rw [hc] at e
      injection e with e1 _
      rw [← e1] at l1
      exact absurd l1 (by decide)
  · rintro ⟨h1, h2, h3⟩
    have hrg := num_range r
    generalize hv : (NumM.numV r).1 = v at h2 h3 hrg
    have hpos : ¬ v < 0 := by
      intro hn
      have := NumM.num_neg hn
      rw [h2] at this
      rw [this] at h1
      cases h1
    refine ⟨-v, by omega, by omega, ?_⟩
    rw [h, itoa_neg' (by omega), ← h2, itoa_pos hpos]
    congr 2
    omega
theorem mask_plain {t : ByteArray} (h : ∀ r, t.data.toList ≠ 45 :: r) : maskB t = ((NumM.numV t.data.toList).2 && decide (Lib.itoa (NumM.numV t.data.toList).1 = t.data.toList)) := by
  have hb : ∀ {a b : Bool}, (a = true ↔ b = true) → a = b := fun {a b} h => by cases a <;> cases b <;> simp_all
  apply hb
  unfold maskB MaskP
  simp only [decide_eq_true_eq, Bool.and_eq_true]
  constructor
  · rintro ⟨n, n0, n1, e⟩
    have hn : ¬ n < 0 := fun hn => h _ (by rw [e, itoa_neg' hn])
    have hbk := NumM.num_back (n := n) (by omega) n1
    rw [e, hbk]
    exact ⟨rfl, rfl⟩
  · rintro ⟨h1, h2⟩
    have hrg := num_range t.data.toList
    exact ⟨_, hrg.1, hrg.2, h2.symm⟩
theorem ne_min {t : ByteArray} (h : ¬ t = MINB) : (t.toList == [45, 57, 50, 50, 51, 51, 55, 50, 48, 51, 54, 56, 53, 52, 55, 55, 53, 56, 48, 56]) = false := ne_list h
set_option maxRecDepth 100000 in
set_option maxHeartbeats 8000000 in
theorem rMask_any (t : ByteArray) (hs : t.size ≤ 1000000) (w : World) (hT : NumD.Tab w) : Calls Tryz.prog 44 #[.string t] w fun e w' => ∃ v : Int, e = .returned (.tuple #[.int .i64 v, .bool (maskB t)]) ∧ Below w.heap.size w w' := by
  have HT := Lib.hid (fun (W : World) (h : Below w.heap.size w W) => hT.below h)
  by_cases hm : t = MINB
  · subst hm
    rw [mask_min]
    unfold MINB
    clear hs hT
    go_enter Tryz.func44, Tryz.ntmps44
    go_wp2
    go_ret2
    exact ⟨_, rfl, Below.refl _ _⟩
  · have hme := ne_min hm
    by_cases hmin : ∃ r, t.data.toList = 45 :: r
    · obtain ⟨r, hr⟩ := hmin
      have hmk := mask_minus hm hr
      have hsz : 0 < t.size := by
        have := congrArg List.length hr
        simp at this
        have h2 : t.size = t.data.toList.length := rfl
        omega
      have hb0 : (t[0]'hsz) = 45 := by
        have h1 : 0 < t.data.toList.length := hsz
        have h2 : t.data.toList[0]'h1 = 45 := by simp only [hr, List.getElem_cons_zero]
        exact h2
      obtain ⟨x, hx⟩ : ∃ x, t.extract 1 t.size = x := ⟨_, rfl⟩
      have hxl : x.data.toList = r := by
        rw [← hx]
        have : (t.extract 1 t.size).data.toList = t.data.toList.drop 1 := by
          have h2 : t.data.toList.length = t.size := rfl
          rw [ByteArray.data_extract, Array.toList_extract, List.extract_eq_take_drop, List.take_of_length_le (by rw [List.length_drop, h2]; exact Nat.le_refl _)]
        rw [this, hr]
        rfl
      have hxs : x.size ≤ 1000000 := by rw [← hx]; simp; omega
      rw [← hxl] at hmk
      have HN := Lib.hid (NumD.refNumber_any x w hxs)
      have hrg := num_range x.data.toList
      obtain ⟨v, hv⟩ : ∃ v, (NumM.numV x.data.toList).1 = v := ⟨_, rfl⟩
      obtain ⟨b, hb⟩ : ∃ b, (NumM.numV x.data.toList).2 = b := ⟨_, rfl⟩
      rw [hv] at hrg
      rw [hv, hb] at HN hmk
      have HS := Lib.hid (fun (W : World) (h : Below w.heap.size w W) => NumD.refShow_any v hrg.1 hrg.2 W (HT.out W h))
      have HTe := Lib.hid (text_eq (Lib.itoa v) x)
      have hde : decide (Lib.itoa v = x.data.toList) = decide (x.data.toList = Lib.itoa v) := by rw [decide_eq_decide]; exact ⟨Eq.symm, Eq.symm⟩
      rw [hde] at hmk
      obtain ⟨q, hq⟩ : ∃ q, decide (x.data.toList = Lib.itoa v) = q := ⟨_, rfl⟩
      rw [hq] at HTe hmk
      obtain ⟨y, hy⟩ : ∃ y : ByteArray, (⟨(Lib.itoa v).toArray⟩ : ByteArray) = y := ⟨_, rfl⟩
      rw [hy] at HTe HS
      have hte := HTe.out
      have HMk := Lib.hid hmk
      rw [HMk.out]
      have hsz1 : (1 : Int) ≤ (t.size : Int) := by omega
      have hsz0 : (0 : Int) < (t.size : Int) := by omega
      have hb0i : ((t[0]'hsz).toNat : Int) = 45 := by rw [hb0]; rfl
      clear hT hq hy hv hb hde hmk HMk hb0 hr hm hrg hxl
      subst hx
      cases b
      · go_enter Tryz.func44, Tryz.ntmps44
        go_wp2_with fail
        refine (HN.out).mono ?_
        rintro e w1 ⟨rfl, rfl⟩
        have HB1 := Lib.hid (Below.refl w.heap.size w)
        go_wp2
        go_ret2
        exact ⟨_, rfl, HB1.out⟩
      · by_cases hz : v = 0
        · subst hz
          cases q
          all_goals
            go_enter Tryz.func44, Tryz.ntmps44
            go_wp2_with fail
            refine (HN.out).mono ?_
            rintro e w1 ⟨rfl, rfl⟩
            have HB1 := Lib.hid (Below.refl w.heap.size w)
            go_wp2_with fail
            refine (HS.out _ HB1.out).mono ?_
            rintro e w2 ⟨rfl, hb2⟩
            have HB2 := Lib.hid (HB1.out.trans (hb2.mono HB1.out.size))
            clear hb2
            go_wp2
            go_ret2
            exact ⟨_, rfl, HB2.out⟩
        · have hzb : (v == 0) = false := by simp [hz]
          rw [decide_eq_false hz]
          cases q
          all_goals
            go_enter Tryz.func44, Tryz.ntmps44
            go_wp2_with fail
            refine (HN.out).mono ?_
            rintro e w1 ⟨rfl, rfl⟩
            have HB1 := Lib.hid (Below.refl w.heap.size w)
            go_wp2_with fail
            refine (HS.out _ HB1.out).mono ?_
            rintro e w2 ⟨rfl, hb2⟩
            have HB2 := Lib.hid (HB1.out.trans (hb2.mono HB1.out.size))
            clear hb2
            go_wp2
            go_ret2
            exact ⟨_, rfl, HB2.out⟩
    · have hmk := mask_plain (t := t) (fun r h => hmin ⟨r, h⟩)
      have HN := Lib.hid (NumD.refNumber_any t w hs)
      have hrg := num_range t.data.toList
      obtain ⟨v, hv⟩ : ∃ v, (NumM.numV t.data.toList).1 = v := ⟨_, rfl⟩
      obtain ⟨b, hb⟩ : ∃ b, (NumM.numV t.data.toList).2 = b := ⟨_, rfl⟩
      rw [hv] at hrg
      rw [hv, hb] at HN hmk
      have HS := Lib.hid (fun (W : World) (h : Below w.heap.size w W) => NumD.refShow_any v hrg.1 hrg.2 W (HT.out W h))
      have HTe := Lib.hid (text_eq (Lib.itoa v) t)
      have hde : decide (Lib.itoa v = t.data.toList) = decide (t.data.toList = Lib.itoa v) := by rw [decide_eq_decide]; exact ⟨Eq.symm, Eq.symm⟩
      rw [hde] at hmk
      obtain ⟨q, hq⟩ : ∃ q, decide (t.data.toList = Lib.itoa v) = q := ⟨_, rfl⟩
      rw [hq] at HTe hmk
      obtain ⟨y, hy⟩ : ∃ y : ByteArray, (⟨(Lib.itoa v).toArray⟩ : ByteArray) = y := ⟨_, rfl⟩
      rw [hy] at HTe HS
      have hte := HTe.out
      have HMk := Lib.hid hmk
      rw [HMk.out]
      have hneg : (¬ (0 : Int) < (t.size : Int) ∧ True) ∨ ((0 : Int) < (t.size : Int) ∧ ∃ hsz : 0 < t.size, ¬ ((t[0]'hsz).toNat : Int) = 45) := by
        by_cases hz : 0 < t.size
        · refine .inr ⟨by omega, hz, fun e => ?_⟩
          have h1 : 0 < t.data.toList.length := hz
          cases hl : t.data.toList with
          | nil => rw [hl] at h1; simp at h1
          | cons c r =>
            refine hmin ⟨r, ?_⟩
            rw [hl]
            have h2 : t.data.toList[0]'h1 = c := by simp only [hl, List.getElem_cons_zero]
            have h3 : (t[0]'hz) = c := h2
            rw [h3] at e
            have : c = 45 := UInt8.toNat_inj.1 (show c.toNat = 45 by omega)
            rw [this]
        · exact .inl ⟨by omega, trivial⟩
      clear hT hq hy hv hb hde hmk HMk hmin hm hrg
      rcases hneg with ⟨hsz0, -⟩ | ⟨hsz0, hsz, hb0i⟩
      · cases b
        · go_enter Tryz.func44, Tryz.ntmps44
          go_wp2_with fail
          refine (HN.out).mono ?_
          rintro e w1 ⟨rfl, rfl⟩
          have HB1 := Lib.hid (Below.refl w.heap.size w)
          go_wp2
          go_ret2
          exact ⟨_, rfl, HB1.out⟩
        · cases q
          all_goals
            go_enter Tryz.func44, Tryz.ntmps44
            go_wp2_with fail
            refine (HN.out).mono ?_
            rintro e w1 ⟨rfl, rfl⟩
            have HB1 := Lib.hid (Below.refl w.heap.size w)
            go_wp2_with fail
            refine (HS.out _ HB1.out).mono ?_
            rintro e w2 ⟨rfl, hb2⟩
            have HB2 := Lib.hid (HB1.out.trans (hb2.mono HB1.out.size))
            clear hb2
            go_wp2
            go_ret2
            exact ⟨_, rfl, HB2.out⟩
      · cases b
        · go_enter Tryz.func44, Tryz.ntmps44
          go_wp2_with fail
          refine (HN.out).mono ?_
          rintro e w1 ⟨rfl, rfl⟩
          have HB1 := Lib.hid (Below.refl w.heap.size w)
          go_wp2
          go_ret2
          exact ⟨_, rfl, HB1.out⟩
        · cases q
          all_goals
            go_enter Tryz.func44, Tryz.ntmps44
            go_wp2_with fail
            refine (HN.out).mono ?_
            rintro e w1 ⟨rfl, rfl⟩
            have HB1 := Lib.hid (Below.refl w.heap.size w)
            go_wp2_with fail
            refine (HS.out _ HB1.out).mono ?_
            rintro e w2 ⟨rfl, hb2⟩
            have HB2 := Lib.hid (HB1.out.trans (hb2.mono HB1.out.size))
            clear hb2
            go_wp2
            go_ret2
            exact ⟨_, rfl, HB2.out⟩
set_option maxRecDepth 100000 in
set_option maxHeartbeats 4000000 in
theorem rBase_any (t : ByteArray) (w : World) : Calls Tryz.prog 47 #[.string t] w fun e w' => e = .returned (.bool (memB TYS t)) ∧ w = w' := by
  by_cases h : t ∈ TYS
  · rw [(memB_iff TYS t).2 h]
    simp only [TYS, List.mem_cons, List.not_mem_nil, or_false] at h
    rcases h with rfl | rfl | rfl | rfl | rfl | rfl | rfl
    all_goals
      go_enter Tryz.func47, Tryz.ntmps47
      go_wp2
      go_ret
      exact ⟨rfl, rfl⟩
  · have hf : memB TYS t = false := by
      cases e : memB TYS t with
      | false => rfl
      | true => exact absurd ((memB_iff TYS t).1 e) h
    rw [hf]
    simp only [TYS, List.mem_cons, List.not_mem_nil, or_false, not_or] at h
    obtain ⟨a0, a1, a2, a3, a4, a5, a6⟩ := h
    replace a0 := ne_list a0
    replace a1 := ne_list a1
    replace a2 := ne_list a2
    replace a3 := ne_list a3
    replace a4 := ne_list a4
    replace a5 := ne_list a5
    replace a6 := ne_list a6
    go_enter Tryz.func47, Tryz.ntmps47
    go_wp2
    go_ret
    exact ⟨rfl, rfl⟩
def digitB (t : ByteArray) : Bool := decide (t.size = 1) && (decide (48 ≤ byteAt t 0) && decide (byteAt t 0 ≤ 55))
set_option maxRecDepth 100000 in
set_option maxHeartbeats 4000000 in
theorem rDigit_any (t : ByteArray) (_hs : t.size ≤ 140737488355328) (w : World) : Calls Tryz.prog 43 #[.string t] w fun e w' => e = .returned (.bool (digitB t)) ∧ w = w' := by
  unfold digitB
  by_cases h1 : t.size = 1
  · have hz : 0 < t.size := by omega
    have h1i : (t.size : Int) = 1 := by omega
    rw [byte0 hz, decide_eq_true h1]
    by_cases a0 : (48 : Int) ≤ ((t[0]'hz).toNat : Int)
    · by_cases a1 : ((t[0]'hz).toNat : Int) ≤ 55
      · rw [decide_eq_true (show 48 ≤ (t[0]'hz).toNat by omega), decide_eq_true (show (t[0]'hz).toNat ≤ 55 by omega)]
        clear h1
        go_enter Tryz.func43, Tryz.ntmps43
        go_wp2
        go_ret
        exact ⟨by simp, rfl⟩
      · rw [decide_eq_false (show ¬ (t[0]'hz).toNat ≤ 55 by omega)]
        clear h1
        go_enter Tryz.func43, Tryz.ntmps43
        go_wp2
        go_ret
        exact ⟨by simp, rfl⟩
    · rw [decide_eq_false (show ¬ 48 ≤ (t[0]'hz).toNat by omega)]
      clear h1
      go_enter Tryz.func43, Tryz.ntmps43
      go_wp2
      go_ret
      exact ⟨by simp, rfl⟩
  · have h1i : ¬ (t.size : Int) = 1 := by omega
    rw [decide_eq_false h1]
    clear h1
    go_enter Tryz.func43, Tryz.ntmps43
    go_wp2
    go_ret
    exact ⟨rfl, rfl⟩
end TreeD
end Go.Proofs.YtmdkocegnbcgmaaGreatDoor

namespace Go.Proofs.YtmdkocegnbcgmaaGreatDoor
open Go.RowKit ObjM
namespace TreeD

/-- A text as the document has it: of a builtin the number of its arguments, too. -/
noncomputable def rtextB (x : Nd) : Bool := if x.kind = 21 then decide (builtinV x.text = (x.kids.length : Int)) else textB x
set_option maxRecDepth 100000 in
set_option maxHeartbeats 8000000 in
theorem rx18 (t : ByteArray) (hs : t.size ≤ 1000000) (kv : Value) (p : Int) (w : World) (_hT : NumD.Tab w) : Calls Tryz.prog 25 #[.agg #[.int .i64 18, .string t, kv, .int .i64 p]] w fun e w' => e = .returned (.bool (LexD.nameB t)) ∧ Below w.heap.size w w' := by
  have hA : Below w.heap.size w (w.alloc (.cells #[.int .i64 18, .string t, kv, .int .i64 p] 40)) := (Below.refl _ w).alloc (Nat.le_refl _) _
  have HA := Lib.hid hA
  have hsz : w.heap.size ≤ (w.alloc (.cells #[.int .i64 18, .string t, kv, .int .i64 p] 40)).heap.size := hA.size
  have HNd := Lib.hid (Has.new w 40 [.int .i64 18, .string t, kv, .int .i64 p])
  have HN := Lib.hid (LexD.refName_fn t (by omega) (w.alloc (.cells #[.int .i64 18, .string t, kv, .int .i64 p] 40)))
  clear hA HNd
  go_enter Tryz.func25, Tryz.ntmps25
  go_wp2_with fail
  refine (HN.out).mono ?_
  rintro e w1 ⟨rfl, hb⟩
  have HB := Lib.hid (HA.out.trans (hb.mono hsz))
  clear hb
  go_wp2
  go_ret
  exact ⟨rfl, HB.out⟩
set_option maxRecDepth 100000 in
set_option maxHeartbeats 8000000 in
theorem rx25 (t : ByteArray) (hs : t.size ≤ 1000000) (kv : Value) (p : Int) (w : World) (_hT : NumD.Tab w) : Calls Tryz.prog 25 #[.agg #[.int .i64 25, .string t, kv, .int .i64 p]] w fun e w' => e = .returned (.bool (LexD.nameB t)) ∧ Below w.heap.size w w' := by
  have hA : Below w.heap.size w (w.alloc (.cells #[.int .i64 25, .string t, kv, .int .i64 p] 40)) := (Below.refl _ w).alloc (Nat.le_refl _) _
  have HA := Lib.hid hA
  have hsz : w.heap.size ≤ (w.alloc (.cells #[.int .i64 25, .string t, kv, .int .i64 p] 40)).heap.size := hA.size
  have HNd := Lib.hid (Has.new w 40 [.int .i64 25, .string t, kv, .int .i64 p])
  have HN := Lib.hid (LexD.refName_fn t (by omega) (w.alloc (.cells #[.int .i64 25, .string t, kv, .int .i64 p] 40)))
  clear hA HNd
  go_enter Tryz.func25, Tryz.ntmps25
  go_wp2_with fail
  refine (HN.out).mono ?_
  rintro e w1 ⟨rfl, hb⟩
  have HB := Lib.hid (HA.out.trans (hb.mono hsz))
  clear hb
  go_wp2
  go_ret
  exact ⟨rfl, HB.out⟩
set_option maxRecDepth 100000 in
set_option maxHeartbeats 8000000 in
theorem rx33 (t : ByteArray) (hs : t.size ≤ 1000000) (kv : Value) (p : Int) (w : World) (_hT : NumD.Tab w) : Calls Tryz.prog 25 #[.agg #[.int .i64 33, .string t, kv, .int .i64 p]] w fun e w' => e = .returned (.bool (LexD.nameB t)) ∧ Below w.heap.size w w' := by
  have hA : Below w.heap.size w (w.alloc (.cells #[.int .i64 33, .string t, kv, .int .i64 p] 40)) := (Below.refl _ w).alloc (Nat.le_refl _) _
  have HA := Lib.hid hA
  have hsz : w.heap.size ≤ (w.alloc (.cells #[.int .i64 33, .string t, kv, .int .i64 p] 40)).heap.size := hA.size
  have HNd := Lib.hid (Has.new w 40 [.int .i64 33, .string t, kv, .int .i64 p])
  have HN := Lib.hid (LexD.refName_fn t (by omega) (w.alloc (.cells #[.int .i64 33, .string t, kv, .int .i64 p] 40)))
  clear hA HNd
  go_enter Tryz.func25, Tryz.ntmps25
  go_wp2_with fail
  refine (HN.out).mono ?_
  rintro e w1 ⟨rfl, hb⟩
  have HB := Lib.hid (HA.out.trans (hb.mono hsz))
  clear hb
  go_wp2
  go_ret
  exact ⟨rfl, HB.out⟩
set_option maxRecDepth 100000 in
set_option maxHeartbeats 8000000 in
theorem rx4 (t : ByteArray) (hs : t.size ≤ 1000000) (kv : Value) (p : Int) (w : World) (_hT : NumD.Tab w) : Calls Tryz.prog 25 #[.agg #[.int .i64 4, .string t, kv, .int .i64 p]] w fun e w' => e = .returned (.bool (freeB t)) ∧ Below w.heap.size w w' := by
  have hA : Below w.heap.size w (w.alloc (.cells #[.int .i64 4, .string t, kv, .int .i64 p] 40)) := (Below.refl _ w).alloc (Nat.le_refl _) _
  have HA := Lib.hid hA
  have hsz : w.heap.size ≤ (w.alloc (.cells #[.int .i64 4, .string t, kv, .int .i64 p] 40)).heap.size := hA.size
  have HNd := Lib.hid (Has.new w 40 [.int .i64 4, .string t, kv, .int .i64 p])
  have HN := Lib.hid (LexD.refName_fn t (by omega) (w.alloc (.cells #[.int .i64 4, .string t, kv, .int .i64 p] 40)))
  have HBu := fun W => Lib.hid (refBuiltin_any t W)
  unfold freeB
  generalize builtinV t = v at HBu ⊢
  generalize LexD.nameB t = nb at HN ⊢
  clear hA
  cases nb
  · go_enter Tryz.func25, Tryz.ntmps25
    go_wp2_with fail
    refine (HN.out).mono ?_
    rintro e w1 ⟨rfl, hb⟩
    have HB := Lib.hid (HA.out.trans (hb.mono hsz))
    have hn := HNd.out.below hb HNd.out.lt
    have n1 := hn.cell 1
    have nl := hn.lt
    simp only [List.getElem?_cons_succ, List.getElem?_cons_zero] at n1
    clear hb hn
    go_wp2
    go_ret
    exact ⟨rfl, HB.out⟩
  · go_enter Tryz.func25, Tryz.ntmps25
    go_wp2_with fail
    refine (HN.out).mono ?_
    rintro e w1 ⟨rfl, hb⟩
    have HB := Lib.hid (HA.out.trans (hb.mono hsz))
    have hn := HNd.out.below hb HNd.out.lt
    have n1 := hn.cell 1
    have nl := hn.lt
    simp only [List.getElem?_cons_succ, List.getElem?_cons_zero] at n1
    clear hb hn
    go_wp2_with fail
    refine ((HBu _).out).mono ?_
    rintro e w2 ⟨rfl, rfl⟩
    go_wp2
    go_ret
    exact ⟨rfl, HB.out⟩
set_option maxRecDepth 100000 in
set_option maxHeartbeats 8000000 in
theorem rx5 (t : ByteArray) (hs : t.size ≤ 1000000) (kv : Value) (p : Int) (w : World) (_hT : NumD.Tab w) : Calls Tryz.prog 25 #[.agg #[.int .i64 5, .string t, kv, .int .i64 p]] w fun e w' => e = .returned (.bool (freeB t)) ∧ Below w.heap.size w w' := by
  have hA : Below w.heap.size w (w.alloc (.cells #[.int .i64 5, .string t, kv, .int .i64 p] 40)) := (Below.refl _ w).alloc (Nat.le_refl _) _
  have HA := Lib.hid hA
  have hsz : w.heap.size ≤ (w.alloc (.cells #[.int .i64 5, .string t, kv, .int .i64 p] 40)).heap.size := hA.size
  have HNd := Lib.hid (Has.new w 40 [.int .i64 5, .string t, kv, .int .i64 p])
  have HN := Lib.hid (LexD.refName_fn t (by omega) (w.alloc (.cells #[.int .i64 5, .string t, kv, .int .i64 p] 40)))
  have HBu := fun W => Lib.hid (refBuiltin_any t W)
  unfold freeB
  generalize builtinV t = v at HBu ⊢
  generalize LexD.nameB t = nb at HN ⊢
  clear hA
  cases nb
  · go_enter Tryz.func25, Tryz.ntmps25
    go_wp2_with fail
    refine (HN.out).mono ?_
    rintro e w1 ⟨rfl, hb⟩
    have HB := Lib.hid (HA.out.trans (hb.mono hsz))
    have hn := HNd.out.below hb HNd.out.lt
    have n1 := hn.cell 1
    have nl := hn.lt
    simp only [List.getElem?_cons_succ, List.getElem?_cons_zero] at n1
    clear hb hn
    go_wp2
    go_ret
    exact ⟨rfl, HB.out⟩
  · go_enter Tryz.func25, Tryz.ntmps25
    go_wp2_with fail
    refine (HN.out).mono ?_
    rintro e w1 ⟨rfl, hb⟩
    have HB := Lib.hid (HA.out.trans (hb.mono hsz))
    have hn := HNd.out.below hb HNd.out.lt
    have n1 := hn.cell 1
    have nl := hn.lt
    simp only [List.getElem?_cons_succ, List.getElem?_cons_zero] at n1
    clear hb hn
    go_wp2_with fail
    refine ((HBu _).out).mono ?_
    rintro e w2 ⟨rfl, rfl⟩
    go_wp2
    go_ret
    exact ⟨rfl, HB.out⟩
set_option maxRecDepth 100000 in
set_option maxHeartbeats 8000000 in
theorem rx17 (t : ByteArray) (hs : t.size ≤ 1000000) (kv : Value) (p : Int) (w : World) (_hT : NumD.Tab w) : Calls Tryz.prog 25 #[.agg #[.int .i64 17, .string t, kv, .int .i64 p]] w fun e w' => e = .returned (.bool (freeB t)) ∧ Below w.heap.size w w' := by
  have hA : Below w.heap.size w (w.alloc (.cells #[.int .i64 17, .string t, kv, .int .i64 p] 40)) := (Below.refl _ w).alloc (Nat.le_refl _) _
  have HA := Lib.hid hA
  have hsz : w.heap.size ≤ (w.alloc (.cells #[.int .i64 17, .string t, kv, .int .i64 p] 40)).heap.size := hA.size
  have HNd := Lib.hid (Has.new w 40 [.int .i64 17, .string t, kv, .int .i64 p])
  have HN := Lib.hid (LexD.refName_fn t (by omega) (w.alloc (.cells #[.int .i64 17, .string t, kv, .int .i64 p] 40)))
  have HBu := fun W => Lib.hid (refBuiltin_any t W)
  unfold freeB
  generalize builtinV t = v at HBu ⊢
  generalize LexD.nameB t = nb at HN ⊢
  clear hA
  cases nb
  · go_enter Tryz.func25, Tryz.ntmps25
    go_wp2_with fail
    refine (HN.out).mono ?_
    rintro e w1 ⟨rfl, hb⟩
    have HB := Lib.hid (HA.out.trans (hb.mono hsz))
    have hn := HNd.out.below hb HNd.out.lt
    have n1 := hn.cell 1
    have nl := hn.lt
    simp only [List.getElem?_cons_succ, List.getElem?_cons_zero] at n1
    clear hb hn
    go_wp2
    go_ret
    exact ⟨rfl, HB.out⟩
  · go_enter Tryz.func25, Tryz.ntmps25
    go_wp2_with fail
    refine (HN.out).mono ?_
    rintro e w1 ⟨rfl, hb⟩
    have HB := Lib.hid (HA.out.trans (hb.mono hsz))
    have hn := HNd.out.below hb HNd.out.lt
    have n1 := hn.cell 1
    have nl := hn.lt
    simp only [List.getElem?_cons_succ, List.getElem?_cons_zero] at n1
    clear hb hn
    go_wp2_with fail
    refine ((HBu _).out).mono ?_
    rintro e w2 ⟨rfl, rfl⟩
    go_wp2
    go_ret
    exact ⟨rfl, HB.out⟩
set_option maxRecDepth 100000 in
set_option maxHeartbeats 8000000 in
theorem rx23 (t : ByteArray) (hs : t.size ≤ 1000000) (kv : Value) (p : Int) (w : World) (_hT : NumD.Tab w) : Calls Tryz.prog 25 #[.agg #[.int .i64 23, .string t, kv, .int .i64 p]] w fun e w' => e = .returned (.bool (freeB t)) ∧ Below w.heap.size w w' := by
  have hA : Below w.heap.size w (w.alloc (.cells #[.int .i64 23, .string t, kv, .int .i64 p] 40)) := (Below.refl _ w).alloc (Nat.le_refl _) _
  have HA := Lib.hid hA
  have hsz : w.heap.size ≤ (w.alloc (.cells #[.int .i64 23, .string t, kv, .int .i64 p] 40)).heap.size := hA.size
  have HNd := Lib.hid (Has.new w 40 [.int .i64 23, .string t, kv, .int .i64 p])
  have HN := Lib.hid (LexD.refName_fn t (by omega) (w.alloc (.cells #[.int .i64 23, .string t, kv, .int .i64 p] 40)))
  have HBu := fun W => Lib.hid (refBuiltin_any t W)
  unfold freeB
  generalize builtinV t = v at HBu ⊢
  generalize LexD.nameB t = nb at HN ⊢
  clear hA
  cases nb
  · go_enter Tryz.func25, Tryz.ntmps25
    go_wp2_with fail
    refine (HN.out).mono ?_
    rintro e w1 ⟨rfl, hb⟩
    have HB := Lib.hid (HA.out.trans (hb.mono hsz))
    have hn := HNd.out.below hb HNd.out.lt
    have n1 := hn.cell 1
    have nl := hn.lt
    simp only [List.getElem?_cons_succ, List.getElem?_cons_zero] at n1
    clear hb hn
    go_wp2
    go_ret
    exact ⟨rfl, HB.out⟩
  · go_enter Tryz.func25, Tryz.ntmps25
    go_wp2_with fail
    refine (HN.out).mono ?_
    rintro e w1 ⟨rfl, hb⟩
    have HB := Lib.hid (HA.out.trans (hb.mono hsz))
    have hn := HNd.out.below hb HNd.out.lt
    have n1 := hn.cell 1
    have nl := hn.lt
    simp only [List.getElem?_cons_succ, List.getElem?_cons_zero] at n1
    clear hb hn
    go_wp2_with fail
    refine ((HBu _).out).mono ?_
    rintro e w2 ⟨rfl, rfl⟩
    go_wp2
    go_ret
    exact ⟨rfl, HB.out⟩
set_option maxRecDepth 100000 in
set_option maxHeartbeats 8000000 in
theorem rx14 (t : ByteArray) (_hs : t.size ≤ 1000000) (kv : Value) (p : Int) (w : World) (_hT : NumD.Tab w) : Calls Tryz.prog 25 #[.agg #[.int .i64 14, .string t, kv, .int .i64 p]] w fun e w' => e = .returned (.bool (memB BOOLS t)) ∧ Below w.heap.size w w' := by
  have hA : Below w.heap.size w (w.alloc (.cells #[.int .i64 14, .string t, kv, .int .i64 p] 40)) := (Below.refl _ w).alloc (Nat.le_refl _) _
  have HA := Lib.hid hA
  have hsz : w.heap.size ≤ (w.alloc (.cells #[.int .i64 14, .string t, kv, .int .i64 p] 40)).heap.size := hA.size
  have HNd := Lib.hid (Has.new w 40 [.int .i64 14, .string t, kv, .int .i64 p])
  have hm : memB BOOLS t = ((t.toList == [116, 114, 117, 101]) || (t.toList == [102, 97, 108, 115, 101])) := by
    unfold memB BOOLS
    rw [ByteArray.toList_eq]
    simp only [List.any_cons, List.any_nil, Bool.or_false]
    rw [Bool.beq_comm (a := t.data.toList), Bool.beq_comm (a := t.data.toList)]
  rw [hm]
  obtain ⟨b1, h1⟩ : ∃ b, (t.toList == [116, 114, 117, 101]) = b := ⟨_, rfl⟩
  obtain ⟨b2, h2⟩ : ∃ b, (t.toList == [102, 97, 108, 115, 101]) = b := ⟨_, rfl⟩
  rw [h1, h2]
  clear hm hA HNd
  cases b1 <;> cases b2
  all_goals
    go_enter Tryz.func25, Tryz.ntmps25
    go_wp2
    go_ret
    exact ⟨rfl, HA.out⟩
set_option maxRecDepth 100000 in
set_option maxHeartbeats 8000000 in
theorem rx27 (t : ByteArray) (_hs : t.size ≤ 1000000) (kv : Value) (p : Int) (w : World) (_hT : NumD.Tab w) : Calls Tryz.prog 25 #[.agg #[.int .i64 27, .string t, kv, .int .i64 p]] w fun e w' => e = .returned (.bool (memB BINS t)) ∧ Below w.heap.size w w' := by
  have hA : Below w.heap.size w (w.alloc (.cells #[.int .i64 27, .string t, kv, .int .i64 p] 40)) := (Below.refl _ w).alloc (Nat.le_refl _) _
  have HA := Lib.hid hA
  have hsz : w.heap.size ≤ (w.alloc (.cells #[.int .i64 27, .string t, kv, .int .i64 p] 40)).heap.size := hA.size
  have HNd := Lib.hid (Has.new w 40 [.int .i64 27, .string t, kv, .int .i64 p])
  by_cases h : t ∈ BINS
  · rw [(memB_iff BINS t).2 h]
    simp only [BINS, List.mem_cons, List.not_mem_nil, or_false] at h
    clear hA HNd
    rcases h with rfl | rfl | rfl | rfl | rfl | rfl | rfl | rfl | rfl | rfl | rfl | rfl
    all_goals
      go_enter Tryz.func25, Tryz.ntmps25
      go_wp2
      go_ret
      exact ⟨rfl, HA.out⟩
  · have hf : memB BINS t = false := by
      cases e : memB BINS t with
      | false => rfl
      | true => exact absurd ((memB_iff BINS t).1 e) h
    rw [hf]
    simp only [BINS, List.mem_cons, List.not_mem_nil, or_false, not_or] at h
    obtain ⟨a0, a1, a2, a3, a4, a5, a6, a7, a8, a9, a10, a11⟩ := h
    replace a0 := ne_list a0
    replace a1 := ne_list a1
    replace a2 := ne_list a2
    replace a3 := ne_list a3
    replace a4 := ne_list a4
    replace a5 := ne_list a5
    replace a6 := ne_list a6
    replace a7 := ne_list a7
    replace a8 := ne_list a8
    replace a9 := ne_list a9
    replace a10 := ne_list a10
    replace a11 := ne_list a11
    clear hA HNd
    go_enter Tryz.func25, Tryz.ntmps25
    go_wp2
    go_ret
    exact ⟨rfl, HA.out⟩
set_option maxRecDepth 100000 in
set_option maxHeartbeats 8000000 in
theorem rx28 (t : ByteArray) (_hs : t.size ≤ 1000000) (kv : Value) (p : Int) (w : World) (_hT : NumD.Tab w) : Calls Tryz.prog 25 #[.agg #[.int .i64 28, .string t, kv, .int .i64 p]] w fun e w' => e = .returned (.bool (memB UNS t)) ∧ Below w.heap.size w w' := by
  have hA : Below w.heap.size w (w.alloc (.cells #[.int .i64 28, .string t, kv, .int .i64 p] 40)) := (Below.refl _ w).alloc (Nat.le_refl _) _
  have HA := Lib.hid hA
  have hsz : w.heap.size ≤ (w.alloc (.cells #[.int .i64 28, .string t, kv, .int .i64 p] 40)).heap.size := hA.size
  have HNd := Lib.hid (Has.new w 40 [.int .i64 28, .string t, kv, .int .i64 p])
  by_cases h : t ∈ UNS
  · rw [(memB_iff UNS t).2 h]
    simp only [UNS, List.mem_cons, List.not_mem_nil, or_false] at h
    clear hA HNd
    rcases h with rfl | rfl | rfl
    all_goals
      go_enter Tryz.func25, Tryz.ntmps25
      go_wp2
      go_ret
      exact ⟨rfl, HA.out⟩
  · have hf : memB UNS t = false := by
      cases e : memB UNS t with
      | false => rfl
      | true => exact absurd ((memB_iff UNS t).1 e) h
    rw [hf]
    simp only [UNS, List.mem_cons, List.not_mem_nil, or_false, not_or] at h
    obtain ⟨a0, a1, a2⟩ := h
    replace a0 := ne_list a0
    replace a1 := ne_list a1
    replace a2 := ne_list a2
    clear hA HNd
    go_enter Tryz.func25, Tryz.ntmps25
    go_wp2
    go_ret
    exact ⟨rfl, HA.out⟩
set_option maxRecDepth 100000 in
set_option maxHeartbeats 8000000 in
theorem rx31 (t : ByteArray) (_hs : t.size ≤ 1000000) (kv : Value) (p : Int) (w : World) (_hT : NumD.Tab w) : Calls Tryz.prog 25 #[.agg #[.int .i64 31, .string t, kv, .int .i64 p]] w fun e w' => e = .returned (.bool (memB TYS t)) ∧ Below w.heap.size w w' := by
  have hA : Below w.heap.size w (w.alloc (.cells #[.int .i64 31, .string t, kv, .int .i64 p] 40)) := (Below.refl _ w).alloc (Nat.le_refl _) _
  have HA := Lib.hid hA
  have hsz : w.heap.size ≤ (w.alloc (.cells #[.int .i64 31, .string t, kv, .int .i64 p] 40)).heap.size := hA.size
  have HNd := Lib.hid (Has.new w 40 [.int .i64 31, .string t, kv, .int .i64 p])
  have HBa := fun W => Lib.hid (rBase_any t W)
  clear hA HNd
  go_enter Tryz.func25, Tryz.ntmps25
  go_wp2_with fail
  refine ((HBa _).out).mono ?_
  rintro e w2 ⟨rfl, rfl⟩
  go_wp2
  go_ret
  exact ⟨rfl, HA.out⟩
set_option maxRecDepth 100000 in
set_option maxHeartbeats 8000000 in
theorem rx16 (t : ByteArray) (_hs : t.size ≤ 1000000) (kv : Value) (p : Int) (w : World) (_hT : NumD.Tab w) : Calls Tryz.prog 25 #[.agg #[.int .i64 16, .string t, kv, .int .i64 p]] w fun e w' => e = .returned (.bool (true)) ∧ Below w.heap.size w w' := by
  have hA : Below w.heap.size w (w.alloc (.cells #[.int .i64 16, .string t, kv, .int .i64 p] 40)) := (Below.refl _ w).alloc (Nat.le_refl _) _
  have HA := Lib.hid hA
  have hsz : w.heap.size ≤ (w.alloc (.cells #[.int .i64 16, .string t, kv, .int .i64 p] 40)).heap.size := hA.size
  have HNd := Lib.hid (Has.new w 40 [.int .i64 16, .string t, kv, .int .i64 p])
  clear hA HNd
  go_enter Tryz.func25, Tryz.ntmps25
  go_wp2
  go_ret
  exact ⟨rfl, HA.out⟩
set_option maxRecDepth 100000 in
set_option maxHeartbeats 8000000 in
theorem rx21 (t : ByteArray) (_hs : t.size ≤ 1000000) (av : Option Addr) (nk cv : Nat) (p : Int) (w : World) (_hT : NumD.Tab w) : Calls Tryz.prog 25 #[.agg #[.int .i64 21, .string t, .slice av nk cv, .int .i64 p]] w fun e w' => e = .returned (.bool (decide (builtinV t = (nk : Int)))) ∧ Below w.heap.size w w' := by
  have hA : Below w.heap.size w (w.alloc (.cells #[.int .i64 21, .string t, .slice av nk cv, .int .i64 p] 40)) := (Below.refl _ w).alloc (Nat.le_refl _) _
  have HA := Lib.hid hA
  have hsz : w.heap.size ≤ (w.alloc (.cells #[.int .i64 21, .string t, .slice av nk cv, .int .i64 p] 40)).heap.size := hA.size
  have HNd := Lib.hid (Has.new w 40 [.int .i64 21, .string t, .slice av nk cv, .int .i64 p])
  have HBu := fun W => Lib.hid (refBuiltin_any t W)
  generalize builtinV t = v at HBu ⊢
  have hd : (v == (nk : Int)) = decide (v = (nk : Int)) := rfl
  have n1 := HNd.out.cell 1
  have n2 := HNd.out.cell 2
  have nl := HNd.out.lt
  simp only [List.getElem?_cons_succ, List.getElem?_cons_zero] at n1 n2
  obtain ⟨r, hr⟩ : ∃ r, decide (v = (nk : Int)) = r := ⟨_, rfl⟩
  rw [hr] at hd ⊢
  clear hA HNd hr
  go_enter Tryz.func25, Tryz.ntmps25
  go_wp2
  go_quiet ((go_at_call 42; exact quiet_left ((HBu _).out)))
  have HB : Hid (Below w.heap.size w ((w.alloc (.cells #[.int .i64 21, .string t, .slice av nk cv, .int .i64 p] 40)).drewN nq)) := Lib.hid ⟨HA.out.os, HA.out.tape, HA.out.output, HA.out.size, fun k hk => HA.out.block k hk⟩
  go_wp2
  go_ret
  exact ⟨by first | rfl | (rw [hd]), HB.out⟩
set_option maxRecDepth 100000 in
set_option maxHeartbeats 8000000 in
theorem rx36 (t : ByteArray) (hs : t.size ≤ 1000000) (kv : Value) (p : Int) (w : World) (hT : NumD.Tab w) : Calls Tryz.prog 25 #[.agg #[.int .i64 36, .string t, kv, .int .i64 p]] w fun e w' => e = .returned (.bool (maskB t)) ∧ Below w.heap.size w w' := by
  have hA : Below w.heap.size w (w.alloc (.cells #[.int .i64 36, .string t, kv, .int .i64 p] 40)) := (Below.refl _ w).alloc (Nat.le_refl _) _
  have HA := Lib.hid hA
  have hsz : w.heap.size ≤ (w.alloc (.cells #[.int .i64 36, .string t, kv, .int .i64 p] 40)).heap.size := hA.size
  have HNd := Lib.hid (Has.new w 40 [.int .i64 36, .string t, kv, .int .i64 p])
  have HT := Lib.hid (fun (W : World) (h : Below w.heap.size w W) => hT.below h)
  have HN := Lib.hid (rMask_any t hs _ (HT.out _ hA))
  clear hA
  go_enter Tryz.func25, Tryz.ntmps25
  go_wp2_with fail
  refine (HN.out).mono ?_
  rintro e w1 ⟨v, rfl, hb⟩
  have HB := Lib.hid (HA.out.trans (hb.mono hsz))
  clear hb
  go_wp2
  go_ret
  exact ⟨rfl, HB.out⟩
set_option maxRecDepth 100000 in
set_option maxHeartbeats 8000000 in
theorem rxElse (t : ByteArray) (_hs : t.size ≤ 1000000) (k : Int) (h2 : ¬ k = 2) (h4 : ¬ k = 4) (h5 : ¬ k = 5) (h17 : ¬ k = 17) (h23 : ¬ k = 23) (h18 : ¬ k = 18) (h25 : ¬ k = 25) (h33 : ¬ k = 33) (h14 : ¬ k = 14) (h15 : ¬ k = 15) (h16 : ¬ k = 16) (h21 : ¬ k = 21) (h27 : ¬ k = 27) (h28 : ¬ k = 28) (h31 : ¬ k = 31) (h36 : ¬ k = 36) (kv : Value) (p : Int) (w : World) (_hT : NumD.Tab w) : Calls Tryz.prog 25 #[.agg #[.int .i64 k, .string t, kv, .int .i64 p]] w fun e w' => e = .returned (.bool (decide (t.size = 0))) ∧ Below w.heap.size w w' := by
  have hA : Below w.heap.size w (w.alloc (.cells #[.int .i64 k, .string t, kv, .int .i64 p] 40)) := (Below.refl _ w).alloc (Nat.le_refl _) _
  have HA := Lib.hid hA
  have hsz : w.heap.size ≤ (w.alloc (.cells #[.int .i64 k, .string t, kv, .int .i64 p] 40)).heap.size := hA.size
  have HNd := Lib.hid (Has.new w 40 [.int .i64 k, .string t, kv, .int .i64 p])
  have he : decide (t.size = 0) = t.toList.isEmpty := by
    rw [ByteArray.toList_eq]
    by_cases h : t.size = 0
    · have : t.data.toList = [] := List.eq_nil_of_length_eq_zero h
      rw [this, decide_eq_true h]
      rfl
    · have h2 : t.data.toList ≠ [] := fun e => h (by have := congrArg List.length e; simpa using this)
      rw [decide_eq_false h]
      cases e : t.data.toList with
      | nil => exact absurd e h2
      | cons c r => rfl
  clear hA HNd
  go_enter Tryz.func25, Tryz.ntmps25
  go_wp2
  go_ret
  exact ⟨by rw [he]; rfl, HA.out⟩
set_option maxRecDepth 100000 in
set_option maxHeartbeats 8000000 in
theorem rx15 (t : ByteArray) (hs : t.size ≤ 1000000) (kv : Value) (p : Int) (w : World) (hT : NumD.Tab w) : Calls Tryz.prog 25 #[.agg #[.int .i64 15, .string t, kv, .int .i64 p]] w fun e w' => e = .returned (.bool (intB t)) ∧ Below w.heap.size w w' := by
  have hA : Below w.heap.size w (w.alloc (.cells #[.int .i64 15, .string t, kv, .int .i64 p] 40)) := (Below.refl _ w).alloc (Nat.le_refl _) _
  have HA := Lib.hid hA
  have hsz : w.heap.size ≤ (w.alloc (.cells #[.int .i64 15, .string t, kv, .int .i64 p] 40)).heap.size := hA.size
  have HNd := Lib.hid (Has.new w 40 [.int .i64 15, .string t, kv, .int .i64 p])
  have HT := Lib.hid (fun (W : World) (h : Below w.heap.size w W) => hT.below h)
  have HN := Lib.hid (NumD.refNumber_any t (w.alloc (.cells #[.int .i64 15, .string t, kv, .int .i64 p] 40)) hs)
  have hrg := num_range t.data.toList
  unfold intB
  obtain ⟨v, hv⟩ : ∃ v, (NumM.numV t.data.toList).1 = v := ⟨_, rfl⟩
  obtain ⟨b, hb⟩ : ∃ b, (NumM.numV t.data.toList).2 = b := ⟨_, rfl⟩
  rw [hv] at hrg
  have hvb : v < 0 → decide (Lib.itoa v = t.data.toList) = true → b = false := by
    intro h1 h2
    have := NumM.num_neg h1
    rw [of_decide_eq_true h2] at this
    rw [← hb, this]
  rw [hv, hb] at HN ⊢
  have HS := Lib.hid (fun (W : World) (h : Below w.heap.size w W) => NumD.refShow_any v hrg.1 hrg.2 W (HT.out W h))
  have HTe := Lib.hid (text_eq (Lib.itoa v) t)
  have hde : decide (Lib.itoa v = t.data.toList) = decide (t.data.toList = Lib.itoa v) := by rw [decide_eq_decide]; exact ⟨Eq.symm, Eq.symm⟩
  rw [hde] at hvb ⊢
  obtain ⟨q, hq⟩ : ∃ q, decide (t.data.toList = Lib.itoa v) = q := ⟨_, rfl⟩
  rw [hq] at HTe hvb ⊢
  obtain ⟨y, hy⟩ : ∃ y : ByteArray, (⟨(Lib.itoa v).toArray⟩ : ByteArray) = y := ⟨_, rfl⟩
  rw [hy] at HTe HS
  have hte := HTe.out
  have n1 := HNd.out.cell 1
  have nl := HNd.out.lt
  simp only [List.getElem?_cons_succ, List.getElem?_cons_zero] at n1
  have HB : Hid (∀ nq, Below w.heap.size w ((w.alloc (.cells #[.int .i64 15, .string t, kv, .int .i64 p] 40)).drewN nq)) := Lib.hid fun nq => ⟨HA.out.os, HA.out.tape, HA.out.output, HA.out.size, fun k hk => HA.out.block k hk⟩
  clear hA hq hy hv hb hde
  cases b
  · go_enter Tryz.func25, Tryz.ntmps25
    go_wp2_with fail
    refine (HN.out).mono ?_
    rintro e w1 ⟨rfl, hw⟩
    subst hw
    go_wp2
    go_quiet (fail)
    go_wp2
    go_ret
    exact ⟨rfl, HB.out _⟩
  · by_cases hv0 : (0 : Int) ≤ v
    · clear hvb
      go_enter Tryz.func25, Tryz.ntmps25
      go_wp2_with fail
      refine (HN.out).mono ?_
      rintro e w1 ⟨rfl, hw⟩
      subst hw
      have hvd : decide ((0 : Int) ≤ v) = true := by simp; omega
      go_wp2
      go_region_held3 (fun W => W.cell? ⟨w.heap.size, 1, none⟩ = some (.string t))
        (first | go_keep | exact (hb5.cell (p := ⟨w.heap.size, 1, none⟩) (by simp)).trans n1)
        (first
          | (go_at_call 46
             refine (HS.out _ (by repeat (first | exact HA.out | refine Below.drew ?_))).mono ?_
             rintro e w5 ⟨rfl, hb5⟩))
      have HB5 : Hid (Below w.heap.size w w5) := Lib.hid ((Below.drew HA.out).trans (hb5.mono (show w.heap.size ≤ (World.drew (w.alloc (.cells #[.int .i64 15, .string t, kv, .int .i64 p] 40))).heap.size from hsz)))
      clear hb5
      go_wp2
      go_ret
      exact ⟨rfl, HB5.out⟩
    · have hqf : q = false := by
        cases q with
        | false => rfl
        | true => exact absurd (hvb (by omega) rfl) (by decide)
      subst hqf
      have hvd : decide ((0 : Int) ≤ v) = false := by simp; omega
      go_enter Tryz.func25, Tryz.ntmps25
      go_wp2_with fail
      refine (HN.out).mono ?_
      rintro e w1 ⟨rfl, hw⟩
      subst hw
      go_wp2
      go_quiet (fail)
      go_wp2
      go_ret
      exact ⟨rfl, HB.out _⟩
set_option maxRecDepth 100000 in
set_option maxHeartbeats 8000000 in
theorem rx2 (t : ByteArray) (hs : t.size ≤ 1000000) (kv : Value) (p : Int) (w : World) (hT : NumD.Tab w) : Calls Tryz.prog 25 #[.agg #[.int .i64 2, .string t, kv, .int .i64 p]] w fun e w' => e = .returned (.bool (chanB t)) ∧ Below w.heap.size w w' := by
  have hA : Below w.heap.size w (w.alloc (.cells #[.int .i64 2, .string t, kv, .int .i64 p] 40)) := (Below.refl _ w).alloc (Nat.le_refl _) _
  have HA := Lib.hid hA
  have hsz : w.heap.size ≤ (w.alloc (.cells #[.int .i64 2, .string t, kv, .int .i64 p] 40)).heap.size := hA.size
  have HNd := Lib.hid (Has.new w 40 [.int .i64 2, .string t, kv, .int .i64 p])
  have HT := Lib.hid (fun (W : World) (h : Below w.heap.size w W) => hT.below h)
  have HN := Lib.hid (fun (W : World) (h : Below w.heap.size w W) => rMask_any (t.extract 2 t.size) (by simp; omega) W (HT.out W h))
  have HDg := Lib.hid (fun (W : World) => rDigit_any (t.extract 0 1) (by simp; omega) W)
  unfold chanB
  generalize maskB (t.extract 2 t.size) = mb at HN ⊢
  have n1 := HNd.out.cell 1
  have nl := HNd.out.lt
  simp only [List.getElem?_cons_succ, List.getElem?_cons_zero] at n1
  clear hA
  by_cases h2 : 2 < t.size
  · have h2i : ¬ (t.size : Int) < 3 := by omega
    have hz : 0 < t.size := by omega
    have hz1 : 1 < t.size := by omega
    have hi0 : (0 : Int) < (t.size : Int) := by omega
    have hi1 : (1 : Int) < (t.size : Int) := by omega
    have hi1b : (1 : Int) ≤ (t.size : Int) := by omega
    have hi2 : (2 : Int) ≤ (t.size : Int) := by omega
    have hdg : digitB (t.extract 0 1) = (decide (48 ≤ (t[0]'hz).toNat) && decide ((t[0]'hz).toNat ≤ 55)) := by
      have hs1 : (t.extract 0 1).size = 1 := by simp; omega
      unfold digitB
      rw [decide_eq_true hs1, byte0 (s := t.extract 0 1) (by omega)]
      have he : (t.extract 0 1)[0]'(by omega) = t[0]'hz := by simp [ByteArray.getElem_extract]
      rw [he]
      rfl
    rw [byte0 hz, byte1 hz1, decide_eq_true h2]
    rw [hdg] at HDg
    by_cases a2 : ((t[1]'hz1).toNat : Int) = 32
    · rw [decide_eq_true (show (t[1]'hz1).toNat = 32 by omega)]
      obtain ⟨d, hd⟩ : ∃ d, (decide (48 ≤ (t[0]'hz).toNat) && decide ((t[0]'hz).toNat ≤ 55)) = d := ⟨_, rfl⟩
      have hgoal : (true && (decide (48 ≤ (t[0]'hz).toNat) && (decide ((t[0]'hz).toNat ≤ 55) && (true && mb)))) = (d && mb) := by
        rw [← hd, Bool.and_assoc]
        rfl
      rw [hgoal]
      rw [hd] at HDg
      clear hd hgoal hdg h2
      cases d
      · go_enter Tryz.func25, Tryz.ntmps25
        go_wp2_with fail
        refine (HDg.out _).mono ?_
        rintro e w1 ⟨rfl, hw⟩
        subst hw
        go_wp2
        go_ret
        exact ⟨rfl, HA.out⟩
      · go_enter Tryz.func25, Tryz.ntmps25
        go_wp2_with fail
        refine (HDg.out _).mono ?_
        rintro e w1 ⟨rfl, hw⟩
        subst hw
        go_wp2_with fail
        refine (HN.out _ HA.out).mono ?_
        rintro e w1 ⟨v, rfl, hb⟩
        have HB := Lib.hid (HA.out.trans (hb.mono hsz))
        clear hb
        go_wp2
        go_ret
        exact ⟨rfl, HB.out⟩
    · rw [decide_eq_false (show ¬ (t[1]'hz1).toNat = 32 by omega)]
      simp only [Bool.false_and, Bool.and_false]
      have a2b : (((t[1]'hz1).toNat : Int) != 32) = true := by simp; omega
      clear hdg h2
      go_enter Tryz.func25, Tryz.ntmps25
      go_wp2
      go_ret
      exact ⟨rfl, HA.out⟩
  · have h2i : (t.size : Int) < 3 := by omega
    rw [decide_eq_false h2]
    simp only [Bool.false_and]
    go_enter Tryz.func25, Tryz.ntmps25
    go_wp2
    go_ret
    exact ⟨rfl, HA.out⟩
theorem rtext_any (x : Nd) (hs : x.text.size ≤ 1000000) (av : Option Addr) (cv : Nat) (w : World) (hT : NumD.Tab w) : Calls Tryz.prog 25 #[.agg #[.int .i64 x.kind, .string x.text, .slice av x.kids.length cv, .int .i64 x.pos]] w fun e w' => e = .returned (.bool (rtextB x)) ∧ Below w.heap.size w w' := by
  obtain ⟨k, t, ks, p⟩ := x
  simp only at *
  by_cases h21 : k = 21
  · subst h21
    exact rx21 t hs av ks.length cv p w hT
  · have he : rtextB ⟨k, t, ks, p⟩ = textB ⟨k, t, ks, p⟩ := by unfold rtextB; rw [if_neg h21]
    rw [he]
    by_cases h2 : k = 2
    · subst h2
      exact rx2 t hs _ p w hT
    by_cases h4 : k = 4
    · subst h4
      exact rx4 t hs _ p w hT
    by_cases h5 : k = 5
    · subst h5
      exact rx5 t hs _ p w hT
    by_cases h17 : k = 17
    · subst h17
      exact rx17 t hs _ p w hT
    by_cases h23 : k = 23
    · subst h23
      exact rx23 t hs _ p w hT
    by_cases h18 : k = 18
    · subst h18
      exact rx18 t hs _ p w hT
    by_cases h25 : k = 25
    · subst h25
      exact rx25 t hs _ p w hT
    by_cases h33 : k = 33
    · subst h33
      exact rx33 t hs _ p w hT
    by_cases h14 : k = 14
    · subst h14
      exact rx14 t hs _ p w hT
    by_cases h15 : k = 15
    · subst h15
      exact rx15 t hs _ p w hT
    by_cases h16 : k = 16
    · subst h16
      exact rx16 t hs _ p w hT
    by_cases h27 : k = 27
    · subst h27
      exact rx27 t hs _ p w hT
    by_cases h28 : k = 28
    · subst h28
      exact rx28 t hs _ p w hT
    by_cases h31 : k = 31
    · subst h31
      exact rx31 t hs _ p w hT
    by_cases h36 : k = 36
    · subst h36
      exact rx36 t hs _ p w hT
    have he2 : textB ⟨k, t, ks, p⟩ = decide (t.size = 0) := by simp [textB, h2, h4, h5, h17, h23, h18, h25, h33, h14, h15, h16, h21, h27, h28, h31, h36]
    rw [he2]
    exact rxElse t hs k h2 h4 h5 h17 h23 h18 h25 h33 h14 h15 h16 h21 h27 h28 h31 h36 _ p w hT
end TreeD
end Go.Proofs.YtmdkocegnbcgmaaGreatDoor
