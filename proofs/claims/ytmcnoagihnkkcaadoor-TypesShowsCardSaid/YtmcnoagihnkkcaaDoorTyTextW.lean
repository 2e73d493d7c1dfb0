/- Types as texts: the program's text, walked. -/
import Derived.Test.YtmcnoagihnkkcaaDoorTyText
import Derived.Deep.RegionHeld3
import Derived.StillTailTactics
namespace Go.Proofs.YtmcnoagihnkkcaaDoor
open Go.RowKit ObjM
namespace TyD
open LexD (nameB WTab)

/-- What strings.Join does. -/
def JoinC : Prop := ∀ (v : Value) (xs : List ByteArray) (sep : ByteArray) (W : World), StrsAt W v xs → xs.length ≤ 140737488355328 → (joinB xs sep).size ≤ 140737488355328 → Calls Tryd.prog 36 #[v, .string sep] W (StrB W (joinB xs sep))
theorem sum_mem {α : Type} (f : α → Nat) : ∀ {l : List α} {a : α}, a ∈ l → f a ≤ sumL (l.map f)
  | b :: l, a, h => by
    simp only [List.map_cons, sumL, List.foldr_cons]
    rcases List.mem_cons.1 h with rfl | h
    · omega
    · have := sum_mem f h
      unfold sumL at this
      omega
theorem wt_len (r : Nat) : ∀ l : List Ty, 8 * l.length ≤ sumL (l.map (wtF r))
  | [] => by simp [sumL]
  | a :: l => by
    have h1 := wt_len r l
    have h2 := txt_size r a
    simp only [List.map_cons, sumL, List.foldr_cons, List.length_cons] at h1 ⊢
    omega
theorem below_in {w W w' : World} (h : Below w.heap.size w W) (k : Below W.heap.size W w') : Below w.heap.size w w' := h.trans (k.mono h.size)
theorem parts_cases {k : Int} {ns : List ByteArray} {ls : List Ty} (h : partsB k ns ls = true) : k = 7 ∨ (k = 8 ∧ ns.length = ls.length) ∨ (k = 9 ∧ 1 ≤ ls.length) ∨ (0 ≤ k ∧ k ≤ 6) := by
  unfold partsB at h
  by_cases h7 : k = 7
  · exact .inl h7
  · by_cases h8 : k = 8
    · subst h8
      simp at h
      exact .inr (.inl ⟨rfl, h.1.1⟩)
    · by_cases h9 : k = 9
      · subst h9
        simp at h
        exact .inr (.inr (.inl ⟨rfl, by omega⟩))
      · simp [h7, h8, h9, flatB] at h
        exact .inr (.inr (.inr (by omega)))
def zipk (ns ls : List ByteArray) (k : Nat) : List ByteArray := (List.zipWith fieldT ns ls).take k ++ ls.drop k
theorem zipk_zero (ns ls : List ByteArray) : zipk ns ls 0 = ls := by simp [zipk]
theorem zipk_len {ns ls : List ByteArray} (h : ns.length = ls.length) (k : Nat) (hk : k ≤ ls.length) : (zipk ns ls k).length = ls.length := by
  unfold zipk
  rw [List.length_append, List.length_take, List.length_zipWith, List.length_drop]
  omega
theorem zipk_at {ns ls : List ByteArray} (h : ns.length = ls.length) {k : Nat} (hk : k < ls.length) : (zipk ns ls k)[k]? = some ls[k] := by
  unfold zipk
  have hl : ((List.zipWith fieldT ns ls).take k).length = k := by rw [List.length_take, List.length_zipWith]; omega
  rw [List.getElem?_append_right (by omega), hl, Nat.sub_self, List.getElem?_drop, Nat.add_zero, List.getElem?_eq_getElem hk]
theorem zipk_step {ns ls : List ByteArray} (h : ns.length = ls.length) {k : Nat} (hk : k < ls.length) (hk2 : k < ns.length) : (zipk ns ls k).set k (fieldT ns[k] ls[k]) = zipk ns ls (k + 1) := by
  unfold zipk
  have hz : k < (List.zipWith fieldT ns ls).length := by rw [List.length_zipWith]; omega
  have hl : ((List.zipWith fieldT ns ls).take k).length = k := by rw [List.length_take]; omega
  rw [List.set_append_right _ _ (by omega), hl, Nat.sub_self, List.drop_eq_getElem_cons hk, List.set_cons_zero, List.take_add_one, List.getElem?_eq_getElem hz, List.getElem_zipWith]
  simp
theorem zipk_end {ns ls : List ByteArray} (h : ns.length = ls.length) : zipk ns ls ls.length = List.zipWith fieldT ns ls := by
  unfold zipk
  rw [List.drop_length, List.append_nil, List.take_of_length_le (by rw [List.length_zipWith]; omega)]
set_option maxRecDepth 100000 in
set_option maxHeartbeats 32000000 in
theorem text_any (hJ : JoinC) : ∀ (r : Nat) (t : Ty) (vn va : Value) (w : World), validB r t = true → TyOk t → wtF r t ≤ 1000000000000 → TyAt w vn va t → NTab w →
    Calls Tryd.prog 23 #[.agg #[.int .i64 t.kind, vn, va]] w (StrB w (txtF r t)) := by
  intro r
  induction r with
  | zero =>
    intro t vn va w hv
    cases hv
  | succ r ih =>
    intro t vn va w hv hok hwt h hN
    obtain ⟨kd, ns, ts⟩ := t
    obtain ⟨hpb, q, hq, hva⟩ := valid_parts hv
    obtain rfl : r = q := by omega
    obtain ⟨hn, ha⟩ := h.parts
    obtain ⟨hkk, ok1, ok2, ok3, ok4⟩ := hok.parts
    have hw1 : wtF (r + 1) (.mk kd ns ts) = 20 + sumL (ns.map ByteArray.size) + sumL (ts.map (wtF r)) := by rw [wtF]
    have hlen := wt_len r ts
    have hml : ts.length ≤ 1000000000000 := by omega
    have hsz := txt_size (r + 1) (.mk kd ns ts)
    have HSz : Hid ((txtF (r + 1) (.mk kd ns ts)).size ≤ 1000000000000) := Lib.hid (by omega)
    have HR : Hid (txtF (r + 1) (.mk kd ns ts) = if kd = 7 then joinB (ts.map (txtF r)) barB
      else if kd = 8 then openB ++ joinB (List.zipWith fieldT ns (ts.map (txtF r))) commaB ++ shutB
      else if kd = 9 then parB ++ joinB (ts.map (txtF r)).dropLast commaB ++ arrB ++ (ts.map (txtF r)).getLastD ⟨#[]⟩
      else baseName kd) := Lib.hid (by rw [txtF])
    have HIH := Lib.hid (fun (x : Ty) (vn va : Value) (W : World) (hx : x ∈ ts) (hb : Below w.heap.size w W) h1 => ih x vn va W (hva x hx) (ok4 x hx) (by have := sum_mem (wtF r) hx; omega) h1 (hN.below hb))
    have HV := Lib.hid (fun (W : World) (hb : Below w.heap.size w W) => ha.below (Nat.le_refl _) hb)
    have HNs := Lib.hid (fun (W : World) (hb : Below w.heap.size w W) => hn.below (Nat.le_refl _) hb)
    have HNT := Lib.hid (fun (W : World) (hb : Below w.heap.size w W) => hN.below hb)
    have HNm : Hid (∀ k (hk : k < ns.length), ns[k].size ≤ 1000000000000) := Lib.hid (fun k hk => by have := sum_mem ByteArray.size (List.getElem_mem hk); omega)
    have HTs : Hid (∀ k (hk : k < (ts.map (txtF r)).length), (ts.map (txtF r))[k].size ≤ 1000000000000) := Lib.hid (fun k hk => by
      rw [List.getElem_map]
      have hk2 : k < ts.length := by simpa using hk
      have := sum_mem (wtF r) (List.getElem_mem hk2)
      have := txt_size r ts[k]
      omega)
    have HJo := Lib.hid hJ
    have HPb := Lib.hid hpb
    obtain ⟨R, hR⟩ : ∃ R, txtF (r + 1) (.mk kd ns ts) = R := ⟨_, rfl⟩
    change Calls _ _ #[.agg #[.int .i64 kd, vn, va]] w _
    rw [hR] at HR HSz ⊢
    obtain ⟨an, cn, rfl⟩ := hn.shape
    obtain ⟨aa, ca, rfl⟩ := ha.shape
    have hx0 := Has.new w 25 [.int .i64 kd, .slice an ns.length cn, .slice aa ts.length ca]
    have hb0 : Below w.heap.size w (w.alloc (.cells #[.int .i64 kd, .slice an ns.length cn, .slice aa ts.length ca] 25)) := (Below.refl _ w).alloc (Nat.le_refl _) _
    obtain ⟨m, hm⟩ : ∃ m, ts.length = m := ⟨_, rfl⟩
    have HM := Lib.hid hm
    have HMap : Hid ((ts.map (txtF r)).length = m) := Lib.hid (by rw [List.length_map, hm])
    rw [hm] at hml
    rw [hm] at hx0 hb0 ⊢
    have HX : Hid (∀ W, Below (w.heap.size + 1) (w.alloc (.cells #[.int .i64 kd, .slice an ns.length cn, .slice aa m ca] 25)) W → (W.cell? ⟨w.heap.size, 0, none⟩ = some (.int .i64 kd) ∧ W.cell? ⟨w.heap.size, 1, none⟩ = some (.slice an ns.length cn) ∧ W.cell? ⟨w.heap.size, 2, none⟩ = some (.slice aa m ca) ∧ w.heap.size < W.heap.size) ∧ Below w.heap.size w W ∧ w.heap.size + 1 ≤ W.heap.size) := Lib.hid (fun W hW => by
      have g := hx0.below hW (by omega)
      exact ⟨⟨g.cell 0, g.cell 1, g.cell 2, g.lt⟩, hb0.trans (hW.mono (by omega)), g.lt⟩)
    have HB0 := Lib.hid (Below.refl (w.heap.size + 1) (w.alloc (.cells #[.int .i64 kd, .slice an ns.length cn, .slice aa m ca] 25)))
    clear h hok hwt hN hn ha ok2 ok4 ok1 ok3 ih hva hv hpb hq hw1 hlen hsz hJ hR hm hx0 hb0
    have HC9 := Lib.hid (parts_cases HPb.out)
    go_enter Tryd.func23, Tryd.ntmps23
    go_wp2
    change Code.wp _ _ _ _ (World.alloc w _)
    generalize (w.alloc (.cells #[.int .i64 kd, .slice an ns.length cn, .slice aa m ca] 25)) = W1 at HX HB0 ⊢
    go_loopw [3, 11] (fun l0 i wr => ∃ (k : Nat) (l : Value), l0 = l ∧ i = .int .i64 (k : Int) ∧ k ≤ m ∧ Hid (wr.ownsRow (w.heap.size + 1) 9 1 l ((ts.take k).map (txtF r)).length (((ts.take k).map (txtF r)).map Value.string)) ∧ Hid (Below (w.heap.size + 1) W1 wr)) (fun _ i _ => m - (intOf i).toNat)
    case atStart => exact ⟨0, _, rfl, rfl, by omega, Lib.hid (World.ownsRow_nil _ _ _ _), HB0⟩
    case round =>
      obtain ⟨k, l, hl, rfl, hk, HO, HB⟩ := hrel
      obtain ⟨la, lc, hls⟩ : ∃ a c, l = .slice a k c := by
        have e0 : ((ts.take k).map (txtF r)).length = k := by rw [List.length_map, List.length_take, HM.out]; omega
        rcases own_strs HO.out with ⟨e1, e2⟩ | ⟨g, c, e1, _⟩
        · rw [e2] at e0
          exact ⟨none, 0, by rw [e1, ← e0]; rfl⟩
        · exact ⟨_, _, by rw [e1, e0]⟩
      subst hls
      subst hl
      obtain ⟨⟨x0, x1, x2, lx⟩, hv, hs⟩ := HX.out _ HB.out
      have HVr := Lib.hid hv
      have HSr := Lib.hid hs
      clear hv hs
      by_cases hlt : k < m
      · have hi1 : (k : Int) < (m : Int) := by omega
        have hkl : k < ts.length := by rw [HM.out]; exact hlt
        obtain ⟨b, o, vx, ax, rfl, hb, g0, g1, g2, g3⟩ := (HV.out _ HVr.out).at k hkl
        have HC := Lib.hid (fun W (hW : Below wr.heap.size wr W) => HIH.out ts[k] vx ax W (List.getElem_mem hkl) (HVr.out.trans (hW.mono HVr.out.size)) (g3.frame (Nat.le_refl _) hW))
        obtain ⟨an2, cn2, ab2, cb2, rfl, rfl⟩ := g3.shape
        have HTk : Hid ((ts.take (k + 1)).map (txtF r) = (ts.take k).map (txtF r) ++ [txtF r ts[k]]) := Lib.hid (by rw [List.take_add_one, List.getElem?_eq_getElem hkl, List.map_append]; rfl)
        generalize ts[k] = x at g0 g1 g2 g3 HC HTk
        have hbx : Below wr.heap.size wr (wr.alloc (.cells #[.int .i64 x.kind, .slice an2 x.names.length cn2, .slice ab2 x.args.length cb2] 25)) := (Below.refl _ wr).alloc (Nat.le_refl _) _
        have HBx := Lib.hid hbx
        clear g3 hbx
        go_wp2_with fail
        refine (HC.out _ HBx.out).mono ?_
        rintro e w4 ⟨rfl, hb4⟩
        have hb5 : Below wr.heap.size wr w4 := below_in HBx.out hb4
        have ho4 := own_keeps HO.out (Keeps.below' hb5 []) (fun g _ hm => by simp at hm)
        obtain ⟨v', w5, hrun, ho5, hB5⟩ := str_push ho4 (txtF r x) (by simp; omega) (by have := hb5.size; have := HSr.out; omega)
        have HRun := Lib.hid hrun
        have HO5 : Hid (w5.ownsRow (w.heap.size + 1) 9 1 v' ((ts.take (k + 1)).map (txtF r)).length (((ts.take (k + 1)).map (txtF r)).map Value.string)) := Lib.hid (by rw [HTk.out]; exact ho5)
        have HB5 := Lib.hid ((HB.out.trans (hb5.mono HSr.out)).trans hB5)
        clear hb4 hb5 ho4 hrun ho5 hB5 hb
        go_wp2_with (at_builtin; refine wpList_append_run (by rfl) (.tmp 15) (.tmp 18) 22 rfl _ _ _ _ rfl rfl HRun.out ?_)
        go_roundw
        case rel => exact ⟨k + 1, _, rfl, by go_num, by omega, HO5, HB5⟩
        case measure => simp [intOf]; omega
      · have HL : Hid (wr.ownsRow (w.heap.size + 1) 9 1 (.slice la m lc) (ts.map (txtF r)).length ((ts.map (txtF r)).map Value.string)) := Lib.hid (by
          have h := HO.out
          have hkm : k = m := by omega
          rwa [List.take_of_length_le (by rw [HM.out]; omega), hkm] at h)
        have HC8 : Hid (kd = 7 ∨ (kd = 8 ∧ ns.length = (ts.map (txtF r)).length) ∨ (kd = 9 ∧ 1 ≤ m) ∨ (0 ≤ kd ∧ kd ≤ 6)) := Lib.hid (by
          have h := HC9.out
          have hm := HM.out
          rw [List.length_map]
          rcases h with h | h | h | h
          · exact .inl h
          · exact .inr (.inl h)
          · exact .inr (.inr (.inl (by omega)))
          · exact .inr (.inr (.inr h)))
        generalize ts.map (txtF r) = ls at HL HR HMap HTs HC8
        clear HO HC9 HPb
        have hkm : k = m := by omega
        rw [hkm]
        clear hkm hlt hk
        have hlt : ¬ (m : Int) < (m : Int) := by omega
        rcases HC8.out with rfl | ⟨rfl, hnl⟩ | ⟨rfl, hm1⟩ | ⟨h0, h6⟩
        · have HF : Hid (R = joinB ls barB) := Lib.hid (by rw [HR.out]; rfl)
          obtain rfl := HF.out
          have HCj := Lib.hid (HJo.out _ ls barB wr (strs_own HL.out) (by have := HMap.out; omega) (by have := HSz.out; omega))
          clear HR HC8
          go_wp2_with fail
          refine (HCj.out).mono ?_
          rintro e w6 ⟨rfl, hb6⟩
          have HV6 := Lib.hid (below_in HVr.out hb6)
          clear hb6
          go_wp2
          go_ret
          exact ⟨rfl, HV6.out⟩
        · have HF : Hid (R = openB ++ joinB (List.zipWith fieldT ns ls) commaB ++ shutB) := Lib.hid (by rw [HR.out]; rfl)
          have HNl := Lib.hid hnl
          have HL0 : Hid (wr.ownsRow (w.heap.size + 1) 9 1 (.slice la m lc) (zipk ns ls 0).length ((zipk ns ls 0).map Value.string)) := Lib.hid (by rw [zipk_zero]; exact HL.out)
          clear HR HC8 hnl
          go_wp2
          go_loopw [31] (fun i wx => ∃ k : Nat, i = .int .i64 (k : Int) ∧ k ≤ m ∧ Hid (wx.ownsRow (w.heap.size + 1) 9 1 (.slice la m lc) (zipk ns ls k).length ((zipk ns ls k).map Value.string)) ∧ Hid (Below (w.heap.size + 1) W1 wx)) (fun i _ => m - (intOf i).toNat)
          case atStart => exact ⟨0, rfl, by omega, HL0, HB⟩
          case round =>
            rename World => wx
            obtain ⟨j, rfl, hj, HO, HBx⟩ := hrel
            obtain ⟨⟨y0, y1, y2, ly⟩, hv, hs⟩ := HX.out _ HBx.out
            have HVx := Lib.hid hv
            clear hv hs x0 x1 x2 lx
            by_cases hjt : j < m
            · have hj1 : (j : Int) < (m : Int) := by omega
              have hjl : j < ls.length := by rw [HMap.out]; exact hjt
              have hjn : j < ns.length := by rw [HNl.out]; exact hjl
              obtain ⟨gn, on, rfl, hgn, n0⟩ := (HNs.out wx HVx.out).at j hjn
              obtain ⟨g, c, e, hbg, hgl, hnc, hcm, -, hfz, hcell⟩ : ∃ g c, Value.slice la m lc = .slice (some ⟨g, 0, none⟩) (zipk ns ls j).length c ∧ w.heap.size + 1 ≤ g ∧ g < wx.heap.size ∧ (zipk ns ls j).length ≤ c ∧ c ≤ maxLen ∧ wx.frozen? ⟨g, 0, none⟩ = false ∧ (∀ i, wx.frozen? ⟨g, i, none⟩ = false) ∧ ∀ (i : Nat) x, (zipk ns ls j)[i]? = some x → wx.cell? ⟨g, i, none⟩ = some (.string x) := by
                rcases own_strs HO.out with ⟨_, e2⟩ | h
                · have := zipk_len HNl.out j (by omega)
                  rw [e2] at this
                  simp at this
                  omega
                · exact h
              injection e with e1 e2 e3
              subst e1 e3
              have q0 := hcell j _ (zipk_at HNl.out hjl)
              have qf := hfz j
              have HSt : Hid ((zipk ns ls j).set j (fieldT ns[j] ls[j]) = zipk ns ls (j + 1)) := Lib.hid (zipk_step HNl.out hjl hjn)
              have hn1 := HNm.out j hjn
              have ht1 := HTs.out j hjl
              generalize ns[j] = nm at n0 HSt hn1
              generalize ls[j] = tx at q0 HSt ht1
              have HO2 : Hid ((wx.setCell ⟨g, j, none⟩ (.string (fieldT nm tx))).ownsRow (w.heap.size + 1) 9 1 (.slice (some ⟨g, 0, none⟩) m lc) (zipk ns ls (j + 1)).length ((zipk ns ls (j + 1)).map Value.string)) := Lib.hid (by
                have h := own_set HO.out j (fieldT nm tx)
                rwa [HSt.out] at h)
              have HB2 := Lib.hid (HBx.out.setCell (p := ⟨g, j, none⟩) hbg (.string (fieldT nm tx)))
              clear hcell hfz HO HSt hgn hnc hcm e2
              have hz1 : ¬ 9223372036854775807 < nm.size + 2 := by omega
              have hz2 : ¬ 9223372036854775807 < nm.size + 2 + tx.size := by omega
              go_wp2
              go_still_tail 14, (by kernel_rfl)
              change wpList _ _ _ _ _ wx.drew
              go_wp2
              go_roundw
              case rel => exact ⟨j + 1, by go_num, by omega, Lib.hid HO2.out.drew, Lib.hid HB2.out.drew⟩
              case measure => simp [intOf]; omega
            · have hO : wx.ownsRow (w.heap.size + 1) 9 1 (.slice la m lc) (List.zipWith fieldT ns ls).length ((List.zipWith fieldT ns ls).map Value.string) := by
                have h := HO.out
                have hjm : j = ls.length := by have := HMap.out; omega
                rwa [hjm, zipk_end HNl.out] at h
              have hz : (joinB (List.zipWith fieldT ns ls) commaB).size ≤ 1000000000000 := by
                have h := HSz.out
                rw [HF.out, ByteArray.size_append, ByteArray.size_append] at h
                omega
              have HCj := Lib.hid (HJo.out _ (List.zipWith fieldT ns ls) commaB wx (strs_own hO) (by rw [List.length_zipWith]; have := HMap.out; omega) (by omega))
              obtain rfl := HF.out
              obtain ⟨J, hJ⟩ : ∃ J, joinB (List.zipWith fieldT ns ls) commaB = J := ⟨_, rfl⟩
              rw [hJ] at HCj hz
              have HJq := Lib.hid hJ
              clear hJ
              have hz1 : ¬ 9223372036854775807 < 1 + J.size := by omega
              have hz2 : ¬ 9223372036854775807 < 1 + J.size + 1 := by omega
              clear hO HO HL HL0
              go_wp2_with fail
              refine (HCj.out).mono ?_
              rintro e w6 ⟨rfl, hb6⟩
              have HV6 := Lib.hid (below_in HVx.out hb6)
              clear hb6
              go_wp2
              go_ret
              exact ⟨by rw [HJq.out]; rfl, HV6.out⟩
        · have HF : Hid (R = parB ++ joinB ls.dropLast commaB ++ arrB ++ ls.getLastD ⟨#[]⟩) := Lib.hid (by rw [HR.out]; rfl)
          obtain ⟨p, rfl⟩ : ∃ p, m = p + 1 := ⟨m - 1, by omega⟩
          obtain ⟨g, c, e, hbg, hgl, hnc, hcm, -, -, hcell⟩ : ∃ g c, Value.slice la (p + 1) lc = .slice (some ⟨g, 0, none⟩) ls.length c ∧ w.heap.size + 1 ≤ g ∧ g < wr.heap.size ∧ ls.length ≤ c ∧ c ≤ maxLen ∧ wr.frozen? ⟨g, 0, none⟩ = false ∧ (∀ i, wr.frozen? ⟨g, i, none⟩ = false) ∧ ∀ (i : Nat) x, ls[i]? = some x → wr.cell? ⟨g, i, none⟩ = some (.string x) := by
            rcases own_strs HL.out with ⟨_, e2⟩ | h
            · have := HMap.out
              rw [e2] at this
              simp at this
            · exact h
          injection e with e1 e2 e3
          subst e1 e3
          have hll : ls.length = p + 1 := HMap.out
          have hlast : ls[p]? = some (ls.getLastD ⟨#[]⟩) := by
            rw [List.getLastD_eq_getLast?, List.getLast?_eq_getElem?, hll, Nat.add_sub_cancel, List.getElem?_eq_getElem (show p < ls.length by omega)]
            rfl
          have hq := hcell p _ hlast
          have hS : ∀ W, Below wr.heap.size wr W → StrsAt W (.slice (some ⟨g, 0, none⟩) p lc) ls.dropLast := fun W hW => by
            refine StrsAt.below (B := wr.heap.size) ⟨_, lc, by rw [List.length_dropLast, hll]; rfl, by rw [List.length_dropLast]; omega, by unfold maxLen at hcm; omega, (fun e => by simp at e), .inr ⟨g, 0, rfl, hgl, fun i x hi => ?_⟩⟩ (Nat.le_refl _) hW
            rw [Nat.zero_add]
            refine hcell i x ?_
            have hil := (List.getElem?_eq_some_iff.1 hi).1
            rw [List.getElem?_dropLast] at hi
            split at hi
            · exact hi
            · cases hi
          have hz : (joinB ls.dropLast commaB).size + (ls.getLastD ⟨#[]⟩).size ≤ 1000000000000 := by
            have h := HSz.out
            rw [HF.out, ByteArray.size_append, ByteArray.size_append, ByteArray.size_append] at h
            omega
          have HCj := Lib.hid (fun (W : World) (hW : Below wr.heap.size wr W) => HJo.out _ ls.dropLast commaB W (hS W hW) (by rw [List.length_dropLast]; omega) (by omega))
          obtain rfl := HF.out
          have hlc : p + 1 ≤ lc := by omega
          obtain ⟨J, hJ⟩ : ∃ J, joinB ls.dropLast commaB = J := ⟨_, rfl⟩
          obtain ⟨lst, hls⟩ : ∃ x, ls.getLastD ⟨#[]⟩ = x := ⟨_, rfl⟩
          rw [hJ] at HCj hz
          rw [hls] at hz hq
          have HJq := Lib.hid (⟨hJ, hls⟩ : _ ∧ _)
          clear hJ hls
          have hz1 : ¬ 9223372036854775807 < 1 + J.size := by omega
          have hz2 : ¬ 9223372036854775807 < 1 + J.size + 5 := by omega
          have hz3 : ¬ 9223372036854775807 < 1 + J.size + 5 + lst.size := by omega
          have hi3 : (p : Int) ≤ (lc : Int) := by omega
          have hi4 : (p : Int) < (p : Int) + 1 := by omega
          clear hS hcell hlast hll e2 hnc hcm hbg HL HR HC8 hm1
          have HS : Hid (∀ W, Below wr.heap.size wr W → W.cell? ⟨g, p, none⟩ = some (.string lst)) := Lib.hid (fun W hW => (hW.cell (p := ⟨g, p, none⟩) hgl).trans hq)
          go_wp2
          go_region_held3 (fun W => W.cell? ⟨g, p, none⟩ = some (.string lst))
            (exact HS.out _ (by repeat (first | exact Below.refl _ _ | assumption | refine Below.drew ?_)))
            (first
              | (go_at_call 36
                 refine (HCj.out _ (by repeat (first | exact Below.refl _ _ | refine Below.drew ?_))).mono ?_
                 rintro e w6 ⟨rfl, hb6⟩
                 have hb7 : Below wr.heap.size wr w6 := below_in (by repeat (first | exact Below.refl _ _ | refine Below.drew ?_)) hb6))
          have HV6 := Lib.hid (below_in HVr.out hb7)
          clear hb6 hb7
          go_wp2
          go_ret
          exact ⟨by rw [HJq.out.1, HJq.out.2]; rfl, HV6.out⟩
        · obtain ⟨q, rfl⟩ := Int.eq_ofNat_of_zero_le h0
          have hN := HNT.out _ HVr.out
          have hq7 : q < 7 := by omega
          have hc := hN.2 q hq7
          have hgl := hN.1
          have hq7i : (q : Int) < 7 := by omega
          have HF : Hid (R = baseName (q : Int)) := Lib.hid (by rw [HR.out, if_neg (by omega), if_neg (by omega), if_neg (by omega)])
          obtain rfl := HF.out
          obtain ⟨bn, hbn⟩ : ∃ x, baseName (q : Int) = x := ⟨_, rfl⟩
          rw [hbn] at hc
          have HBn := Lib.hid hbn
          clear hbn
          have hb7 : ((q : Int) == 7) = false := by simp; omega
          have hb8 : ((q : Int) == 8) = false := by simp; omega
          have hb9 : ((q : Int) == 9) = false := by simp; omega
          clear hN HR HC8 h0
          go_wp2
          go_ret
          exact ⟨by rw [HBn.out]; rfl, HVr.out⟩
end TyD
end Go.Proofs.YtmcnoagihnkkcaaDoor
