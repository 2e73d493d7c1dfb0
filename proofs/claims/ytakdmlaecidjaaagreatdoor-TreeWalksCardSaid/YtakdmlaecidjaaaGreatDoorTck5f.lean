/- Channels and fields that are unlike: the program's. -/
import Derived.Test.YtakdmlaecidjaaaGreatDoorTck5d
import Derived.Maps.OwnSet
import Derived.Carry
namespace Go.Proofs.YtakdmlaecidjaaaGreatDoor
open Go.RowKit ObjM Go.Maps Go.WideMaps
namespace TreeD

def txt (l : List Nd) (k : Int) : List UInt8 := (ndAt l k).text.data.toList
theorem fresh_drop {g : List UInt8 → List UInt8} {l : List Nd} {ks : List Int} {S : List (List UInt8)} {k : Nat} (hk : k < ks.length) :
    freshB g S (textsOf l (ks.drop k)) = (!(S.any fun s => s == g (txt l ks[k])) && freshB g (S ++ [g (txt l ks[k])]) (textsOf l (ks.drop (k + 1)))) := by
  rw [List.drop_eq_getElem_cons hk]
  rfl
theorem keyedStr : Keyed Tryz.prog 9 := string_keyed Tryz.underlying9
theorem key_str (s : ByteArray) (hs : s.size ≤ 140737488355328) : keyOf Tryz.prog 9 (.string s) = some (.string s.data.toList) := keyOf_string_mk Tryz.underlying9 (by unfold maxLen; omega)
/-- A set of texts. -/
def SetOk (w : World) (b N : Nat) (S : List (List UInt8)) : Prop :=
  ∃ D : DataW Unit, w.ownsMap Tryz.prog 9 (unitElem (H := Unit)) b N D ∧ ∀ k, Maps.has D (.string k) = S.any fun s => s == k
theorem set_put {w : World} {b N : Nat} {S : List (List UInt8)} {D : DataW Unit} (hD : w.ownsMap Tryz.prog 9 (unitElem (H := Unit)) b N D) (hq : ∀ k, Maps.has D (.string k) = S.any fun s => s == k) (s : ByteArray) (hs : s.size ≤ 140737488355328) (k : List UInt8) :
    Maps.has (D.put (.string s.data.toList) (.agg [])) (.string k) = (S ++ [s.data.toList]).any fun s => s == k := by
  have hmap := hD.isMap
  have hkk := keyedStr.key (key_str s hs)
  rw [List.any_append]
  by_cases e : k = s.data.toList
  · subst e
    rw [Maps.has_put_same hmap hkk _]
    simp
  · have hne : Lit.string k ≠ Lit.string s.data.toList := fun h => e (by injection h)
    rw [Maps.has_put_other hne, hq k]
    simp [Ne.symm e]
set_option maxRecDepth 100000 in
set_option maxHeartbeats 8000000 in
theorem unlike_any (x0 : Int) (x1 : ByteArray) (ks : List Int) (x3 : Int) (kv lv dv : Value) (l : List Nd) (C : Nat) (w : World) (hC : Ck w C lv dv l) (hk : KidsAt w kv ks) (hok : ∀ k ∈ ks, 0 ≤ k ∧ k < (l.length : Int)) (hkl : ks.length < 1000000) (hokl : ∀ n ∈ l, NdOk n) :
    Calls Tryz.prog 57 #[.pointer (some ⟨C, 0, none⟩), .agg #[.int .i64 x0, .string x1, kv, .int .i64 x3]] w fun e w' => e = .returned (.bool (unlikeB id (textsOf l ks))) ∧ Below w.heap.size w w' := by
  obtain ⟨R, hR⟩ : ∃ R, unlikeB id (textsOf l ks) = R := ⟨_, rfl⟩
  have HR0 : Hid (freshB id [] (textsOf l (ks.drop 0)) = R) := Lib.hid hR
  rw [hR]
  have HO := Lib.hid hok
  have HOl := Lib.hid hokl
  have hmm := @run_makeMap Tryz.prog
  have hN := Has.new w 35 [.int .i64 x0, .string x1, kv, .int .i64 x3]
  have HC := Lib.hid (fun (W : World) (h : Below w.heap.size w W) => hC.below h)
  have HK := Lib.hid (fun (W : World) (h : Below w.heap.size w W) => hk.below (Nat.le_refl _) h)
  obtain ⟨av, cv, rfl⟩ := hk.shape
  obtain ⟨al, cl, rfl⟩ := hC.l.shape
  have hA1 : Below w.heap.size w (w.alloc (.cells #[.int .i64 x0, .string x1, .slice av ks.length cv, .int .i64 x3] 35)) := (Below.refl _ w).alloc (Nat.le_refl _) _
  clear hR hok hC hk hokl
  go_enter Tryz.func57, Tryz.ntmps57
  go_wp2
  change Code.wp _ _ _ _ (World.alloc (World.alloc w _) _)
  have hA2 : Below w.heap.size w (World.alloc (w.alloc (.cells #[.int .i64 x0, .string x1, .slice av ks.length cv, .int .i64 x3] 35)) (.map #[] 0)) := hA1.alloc hA1.size _
  have hs0 : SetOk (World.alloc (w.alloc (.cells #[.int .i64 x0, .string x1, .slice av ks.length cv, .int .i64 x3] 35)) (.map #[] 0)) (w.heap.size + 1) 0 [] := by
    refine ⟨.map [], ?_, fun k => rfl⟩
    have := World.ownsMap_made (H := Unit) (w.alloc (.cells #[.int .i64 x0, .string x1, .slice av ks.length cv, .int .i64 x3] 35)) Tryz.prog 9 (unitElem (H := Unit))
    rw [World.size_alloc] at this
    exact this
  have hK2 := HK.out _ hA2
  clear hA1 hN
  generalize World.alloc (w.alloc (.cells #[.int .i64 x0, .string x1, .slice av ks.length cv, .int .i64 x3] 35)) (.map #[] 0) = w1 at hA2 hs0 hK2 ⊢
  go_loopw [15] (fun i wr => ∃ (k : Nat) (S : List (List UInt8)), i = .int .i64 (k : Int) ∧ k ≤ ks.length ∧ Below w.heap.size w wr ∧ Hid (SetOk wr (w.heap.size + 1) k S) ∧ Hid (freshB id S (textsOf l (ks.drop k)) = R)) (fun i _ => ks.length - (intOf i).toNat)
  case atStart => exact ⟨0, [], rfl, by omega, hA2, Lib.hid hs0, HR0⟩
  case round =>
    obtain ⟨k, S, rfl, hkk, hB, HS, HR⟩ := hrel
    have HB := Lib.hid hB
    have hszr := hB.size
    clear hB
    by_cases hlt : k < ks.length
    · have hk1 : (k : Int) < (ks.length : Int) := by omega
      obtain ⟨g, o, hg1, hg2, z0⟩ := (HK.out _ HB.out).at k hlt
      have hy := HO.out _ (List.getElem_mem hlt)
      have HD := Lib.hid (fresh_drop (g := id) (l := l) (S := S) hlt)
      generalize ks[k] = y at z0 hy HD
      obtain ⟨q, rfl⟩ : ∃ q : Nat, y = (q : Int) := ⟨y.toNat, by omega⟩
      have hql : q < l.length := by omega
      have hqi : (q : Int) < (l.length : Int) := by omega
      have hq0 : (0 : Int) ≤ (q : Int) := by omega
      have hc := HC.out _ HB.out
      obtain ⟨b, o2, kv2, hb1, hb2, d0, d1, -⟩ := hc.l.at q hql
      have htx : txt l (q : Int) = l[q].text.data.toList := by simp [txt, ndAt, List.getD, hql]
      have hty : l[q].text.size ≤ 140737488355328 := (HOl.out _ (List.getElem_mem hql)).1
      rw [htx] at HD
      generalize l[q].text = s at d1 HD hty
      have e0 := hc.c.cell 0
      have el := hc.c.lt
      simp at e0
      subst hg1 hb1
      obtain ⟨D, hown, hhas⟩ := HS.out
      have hkey := key_str s hty
      have HPut := Lib.hid (set_put hown hhas s hty)
      have hkm : k < 1000000 := by omega
      have hh := hhas s.data.toList
      simp only [id] at HD
      obtain ⟨bb, hbb⟩ : ∃ bb, (S.any fun t => t == s.data.toList) = bb := ⟨_, rfl⟩
      rw [hbb] at hh HD
      clear hc htx hbb hhas d0
      cases bb
      · have HR2 : Hid (freshB id (S ++ [s.data.toList]) (textsOf l (ks.drop (k + 1))) = R) := Lib.hid (by rw [← HR.out, HD.out]; rfl)
        clear HD HR
        go_wp2_with (first
          | (at_lookup; refine wpList_lookup_own_unit _ rfl _ _ 88 rfl 9 _ keyedStr Tryz.underlying88 (by kernel_rfl) (w.heap.size + 1) k D rfl hown _ _ rfl hkey ?_; rw [hh])
          | (at_mapUpdate; refine wpList_mapUpdate_own _ rfl _ _ _ 88 rfl 9 _ keyedStr Tryz.underlying88 (unitElem (H := Unit)) (w.heap.size + 1) k D rfl (hown.alloc _) (by unfold maxLen; omega) _ _ _ rfl rfl hkey _ [] unitElem_mk ?_; intro w9 hown1 hgrow1)
          | go_in)
        go_roundw
        case rel => exact ⟨k + 1, S ++ [s.data.toList], by go_num, by omega, (HB.out.alloc hszr _).grown hgrow1 (by simp; omega) (fun j hj => by cases hj; simp), Lib.hid ⟨_, hown1, HPut.out⟩, HR2⟩
        case measure => simp [intOf]; omega
      · have hRf : R = false := by rw [← HR.out, HD.out]; rfl
        subst hRf
        clear HD HR HPut
        go_wp2_with (first
          | (at_lookup; refine wpList_lookup_own_unit _ rfl _ _ 88 rfl 9 _ keyedStr Tryz.underlying88 (by kernel_rfl) (w.heap.size + 1) k D rfl hown _ _ rfl hkey ?_; rw [hh])
          | (at_mapUpdate; refine wpList_mapUpdate_own _ rfl _ _ _ 88 rfl 9 _ keyedStr Tryz.underlying88 (unitElem (H := Unit)) (w.heap.size + 1) k D rfl (hown.alloc _) (by unfold maxLen; omega) _ _ _ rfl rfl hkey _ [] unitElem_mk ?_; intro w9 hown1 hgrow1)
          | go_in)
        go_ret
        exact ⟨rfl, HB.out.alloc hszr _⟩
    · have hRt : R = true := by
        rw [← HR.out, List.drop_eq_nil_of_le (by omega)]
        rfl
      have hkm : k = ks.length := by omega
      subst hRt hkm
      go_wp2
      go_ret
      exact ⟨rfl, HB.out⟩
end TreeD
end Go.Proofs.YtakdmlaecidjaaaGreatDoor

namespace Go.Proofs.YtakdmlaecidjaaaGreatDoor
open Go.RowKit ObjM
namespace TreeD

def bsOf (S : List (List UInt8)) : List Bool := (List.range 8).map fun i => S.any fun s => s == [UInt8.ofNat (48 + i)]
theorem bsOf_len (S : List (List UInt8)) : (bsOf S).length = 8 := by simp [bsOf]
theorem bsOf_get (S : List (List UInt8)) {i : Nat} (hi : i < 8) : (bsOf S)[i]? = some (S.any fun s => s == [UInt8.ofNat (48 + i)]) := by
  unfold bsOf
  rw [List.getElem?_map, List.getElem?_range hi]
  rfl
theorem bsOf_put (S : List (List UInt8)) {i : Nat} (hi : i < 8) : bsOf (S ++ [[UInt8.ofNat (48 + i)]]) = (bsOf S).set i true := by
  apply List.ext_getElem?
  intro j
  by_cases hj : j < 8
  · rw [bsOf_get _ hj, List.getElem?_set]
    by_cases e : i = j
    · subst e
      rw [if_pos rfl, if_pos (by rw [bsOf_len]; exact hj)]
      simp
    · rw [if_neg e]
      have hne : ([UInt8.ofNat (48 + i)] == [UInt8.ofNat (48 + j)]) = false := by
        simp only [beq_eq_false_iff_ne, ne_eq, List.cons.injEq, and_true]
        intro h
        have := congrArg UInt8.toNat h
        rw [UInt8.toNat_ofNat', UInt8.toNat_ofNat'] at this
        omega
      rw [List.any_append, bsOf_get _ hj, List.any_cons, hne]
      simp
  · rw [List.getElem?_eq_none (by rw [bsOf_len]; omega), List.getElem?_eq_none (by rw [List.length_set, bsOf_len]; omega)]
theorem chan_byte {s : ByteArray} (h : chanB s = true) : ∃ i, i < 8 ∧ 0 < s.size ∧ byteAt s 0 = 48 + i ∧ s.data.toList.take 1 = [UInt8.ofNat (48 + i)] := by
  unfold chanB at h
  simp only [Bool.and_eq_true, decide_eq_true_eq] at h
  obtain ⟨h1, h2, h3, -⟩ := h
  have hz : 0 < s.size := by omega
  refine ⟨byteAt s 0 - 48, by omega, hz, by omega, ?_⟩
  have e : 48 + (byteAt s 0 - 48) = byteAt s 0 := by omega
  rw [e, byte0 hz]
  have hl : 0 < s.data.toList.length := hz
  cases hs : s.data.toList with
  | nil => rw [hs] at hl; simp at hl
  | cons c r =>
    have : s[0]'hz = c := by
      have h5 : s.data.toList[0]'hl = c := by simp only [hs, List.getElem_cons_zero]
      exact h5
    rw [this]
    simp
set_option maxRecDepth 100000 in
set_option maxHeartbeats 8000000 in
theorem channels_any (x0 : Int) (x1 : ByteArray) (ks : List Int) (x3 : Int) (kv lv dv : Value) (l : List Nd) (C : Nat) (w : World) (hC : Ck w C lv dv l) (hk : KidsAt w kv ks) (hok : ∀ k ∈ ks, 0 ≤ k ∧ k < (l.length : Int)) (hkl : ks.length < 1000000) (hpos : 0 < ks.length) (hch : ∀ k ∈ ks.dropLast, chanB (ndAt l k).text = true) (hcap : ∀ a n c, kv = .slice a n c → n ≤ c) :
    Calls Tryz.prog 53 #[.pointer (some ⟨C, 0, none⟩), .agg #[.int .i64 x0, .string x1, kv, .int .i64 x3]] w fun e w' => e = .returned (.bool (unlikeB (·.take 1) (textsOf l ks.dropLast))) ∧ Below w.heap.size w w' := by
  obtain ⟨R, hR⟩ : ∃ R, unlikeB (·.take 1) (textsOf l ks.dropLast) = R := ⟨_, rfl⟩
  have HR0 : Hid (freshB (·.take 1) [] (textsOf l (ks.dropLast.drop 0)) = R) := Lib.hid hR
  rw [hR]
  have HO := Lib.hid hok
  have HCh := Lib.hid hch
  have hN := Has.new w 35 [.int .i64 x0, .string x1, kv, .int .i64 x3]
  have HC := Lib.hid (fun (W : World) (h : Below w.heap.size w W) => hC.below h)
  have HK := Lib.hid (fun (W : World) (h : Below w.heap.size w W) => hk.below (Nat.le_refl _) h)
  obtain ⟨av, cv, rfl⟩ := hk.shape
  obtain ⟨al, cl, rfl⟩ := hC.l.shape
  obtain ⟨m, hm⟩ : ∃ m, ks.length = m + 1 := ⟨ks.length - 1, by omega⟩
  have HM := Lib.hid hm
  have hcp : m + 1 ≤ cv := hm ▸ hcap _ _ _ rfl
  have hcp1 : (m : Int) ≤ (cv : Int) := by omega
  have hm0 : (0 : Int) ≤ (m : Int) := by omega
  have hm1 : wrap64 (m : Int) = (m : Int) := NumM.w64_id (by omega) (by omega)
  go_enter Tryz.func53, Tryz.ntmps53
  rw [hm]
  rw [hm] at hkl
  clear hR hok hC hk hch hpos hm hcap
  go_wp2
  change Code.wp _ _ _ _ (World.alloc (w.alloc (.cells #[.int .i64 x0, .string x1, .slice av (m + 1) cv, .int .i64 x3] 35)) (.cells #[.bool false, .bool false, .bool false, .bool false, .bool false, .bool false, .bool false, .bool false] 87))
  have hA2 : Below w.heap.size w (World.alloc (w.alloc (.cells #[.int .i64 x0, .string x1, .slice av (m + 1) cv, .int .i64 x3] 35)) (.cells #[.bool false, .bool false, .bool false, .bool false, .bool false, .bool false, .bool false, .bool false] 87)) := ((Below.refl _ w).alloc (Nat.le_refl _) _).alloc (by simp) _
  have hS0 : Has (World.alloc (w.alloc (.cells #[.int .i64 x0, .string x1, .slice av (m + 1) cv, .int .i64 x3] 35)) (.cells #[.bool false, .bool false, .bool false, .bool false, .bool false, .bool false, .bool false, .bool false] 87)) (w.heap.size + 1) 87 ((bsOf []).map Value.bool) := by
    have := Has.new (w.alloc (.cells #[.int .i64 x0, .string x1, .slice av (m + 1) cv, .int .i64 x3] 35)) 87 [.bool false, .bool false, .bool false, .bool false, .bool false, .bool false, .bool false, .bool false]
    rw [World.size_alloc] at this
    exact this
  clear hN hm1 hcp hcp1 hm0
  generalize (World.alloc (w.alloc (.cells #[.int .i64 x0, .string x1, .slice av (m + 1) cv, .int .i64 x3] 35)) (.cells #[.bool false, .bool false, .bool false, .bool false, .bool false, .bool false, .bool false, .bool false] 87)) = w1 at hA2 hS0 ⊢
  go_loopw [17] (fun i wr => ∃ (k : Nat) (S : List (List UInt8)), i = .int .i64 (k : Int) ∧ k ≤ m ∧ Below w.heap.size w wr ∧ Hid (Has wr (w.heap.size + 1) 87 ((bsOf S).map Value.bool)) ∧ Hid (freshB (·.take 1) S (textsOf l (ks.dropLast.drop k)) = R)) (fun i _ => m - (intOf i).toNat)
  case atStart => exact ⟨0, [], rfl, by omega, hA2, Lib.hid hS0, HR0⟩
  case round =>
    obtain ⟨k, S, rfl, hkk, hB, HS, HR⟩ := hrel
    have HB := Lib.hid hB
    have hszr := hB.size
    clear hB
    by_cases hlt : k < m
    · have hk1 : (k : Int) < (m : Int) := by omega
      have hkl2 : k < ks.length := by have := HM.out; omega
      have hkd : k < ks.dropLast.length := by rw [List.length_dropLast]; have := HM.out; omega
      have hkv := HK.out _ HB.out
      rw [HM.out] at hkv
      obtain ⟨g, o, hg1, hg2, z0⟩ := hkv.at k hkl2
      have hy := HO.out _ (List.getElem_mem hkl2)
      have HD := Lib.hid (fresh_drop (g := (·.take 1)) (l := l) (S := S) hkd)
      have hcb := HCh.out _ (List.getElem_mem hkd)
      have hdl : ks.dropLast[k]'hkd = ks[k]'hkl2 := List.getElem_dropLast hkd
      rw [hdl] at HD hcb
      generalize ks[k]'hkl2 = y at z0 hy HD hcb
      obtain ⟨q, rfl⟩ : ∃ q : Nat, y = (q : Int) := ⟨y.toNat, by omega⟩
      have hql : q < l.length := by omega
      have hqi : (q : Int) < (l.length : Int) := by omega
      have hq0 : (0 : Int) ≤ (q : Int) := by omega
      have hc := HC.out _ HB.out
      obtain ⟨b, o2, kv2, hb1, hb2, d0, d1, -⟩ := hc.l.at q hql
      have htx : txt l (q : Int) = l[q].text.data.toList := by simp [txt, ndAt, List.getD, hql]
      rw [ndAt_q hql] at hcb
      rw [htx] at HD
      generalize l[q].text = s at d1 HD hcb
      obtain ⟨i, hi8, hsz, hbi, htk⟩ := chan_byte hcb
      rw [byte0 hsz] at hbi
      rw [htk] at HD
      have e0 := hc.c.cell 0
      have el := hc.c.lt
      simp at e0
      subst hg1 hb1
      have hs0 : ((s[0]'hsz).toNat : Int) = 48 + (i : Int) := by omega
      have hszi : (0 : Int) < (s.size : Int) := by omega
      have hi0 : (0 : Int) ≤ (i : Int) := by omega
      have hi8i : (i : Int) < 8 := by omega
      have hwr : IntKind.u8.wrap (48 + (i : Int) - 48) = (i : Int) := by simp [IntKind.wrap, IntKind.bits, IntKind.signed]; omega
      have hbc := (HS.out.cell i).trans (show ((bsOf S).map Value.bool)[i]? = some (.bool (S.any fun s => s == [UInt8.ofNat (48 + i)])) by rw [List.getElem?_map, bsOf_get S hi8]; rfl)
      have hbf := HS.out.frozen i
      have hbl := HS.out.lt
      obtain ⟨bb, hbb⟩ : ∃ bb, (S.any fun t => t == [UInt8.ofNat (48 + i)]) = bb := ⟨_, rfl⟩
      rw [hbb] at hbc HD
      clear hc htx hbb d0 hdl hcb htk hkv
      cases bb
      · have HR2 : Hid (freshB (·.take 1) (S ++ [[UInt8.ofNat (48 + i)]]) (textsOf l (ks.dropLast.drop (k + 1))) = R) := Lib.hid (by rw [← HR.out, HD.out]; rfl)
        have HS2 : Hid (Has (wr.setCell ⟨w.heap.size + 1, i, none⟩ (.bool true)) (w.heap.size + 1) 87 ((bsOf (S ++ [[UInt8.ofNat (48 + i)]])).map Value.bool)) := Lib.hid (by
          rw [bsOf_put S hi8, List.map_set]
          exact HS.out.set i (.bool true))
        have HB2 : Hid (Below w.heap.size w (wr.setCell ⟨w.heap.size + 1, i, none⟩ (.bool true))) := Lib.hid (HB.out.setCell (p := ⟨w.heap.size + 1, i, none⟩) (by simp) _)
        clear HD HR
        go_wp2
        go_roundw
        case rel => exact ⟨k + 1, _, by go_num, by omega, HB2.out, HS2, HR2⟩
        case measure => simp [intOf]; omega
      · have hRf : R = false := by rw [← HR.out, HD.out]; rfl
        subst hRf
        clear HD HR
        go_wp2
        go_ret
        exact ⟨rfl, HB.out⟩
    · have hRt : R = true := by
        rw [← HR.out, List.drop_eq_nil_of_le (by rw [List.length_dropLast]; have := HM.out; omega)]
        rfl
      have hkm : k = m := by omega
      subst hRt hkm
      go_wp2
      go_ret
      exact ⟨rfl, HB.out⟩
end TreeD
end Go.Proofs.YtakdmlaecidjaaaGreatDoor
