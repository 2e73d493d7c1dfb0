/- The document's walk of a tree. -/
import Derived.Test.YtakdmlaecidjaaaGreatDoorTck20
namespace Go.Proofs.YtakdmlaecidjaaaGreatDoor
open Go.RowKit ObjM
namespace TreeD

/-- What a walk answers: two rows. -/
def WalkIs (l : List Nd) (w : World) (e : Ending) (w' : World) : Prop :=
  ∃ a b, e = .returned (.tuple #[a, b]) ∧ Below w.heap.size w w' ∧ w'.ownsRow w.heap.size 3 1 a (if (checkV l).2 = 0 then (walkV l).map (·.1) else []).length ((if (checkV l).2 = 0 then (walkV l).map (·.1) else []).map (Value.int .i64)) ∧ w'.ownsRow w.heap.size 3 1 b (if (checkV l).2 = 0 then (walkV l).map (·.2) else []).length ((if (checkV l).2 = 0 then (walkV l).map (·.2) else []).map (Value.int .i64))
theorem own_one {w wr : World} {g : Nat} {x : Int} (hb : w.heap.size ≤ g) (h : Has wr g 3 [.int .i64 x]) : wr.ownsRow w.heap.size 3 1 (.slice (some ⟨g, 0, none⟩) 1 1) 1 [.int .i64 x] :=
  own_of hb h (Nat.le_refl _) (by unfold maxLen; omega) rfl rfl
theorem kids_nil (w : World) : KidsAt w (.slice none 0 0) [] := ⟨none, 0, rfl, .inl rfl⟩
set_option maxRecDepth 100000 in
set_option maxHeartbeats 16000000 in
theorem rwalk_any (l : List Nd) (lv : Value) (w : World) (hl5 : l.length ≤ 50000) (hokl : ∀ n ∈ l, NdOk n) (hkl : ∀ n ∈ l, n.kids.length < 1000000) (hts : ∀ n ∈ l, n.text.size ≤ 1000000) (hS : Still w lv l) :
    Calls Tryz.prog 13 #[lv] w (WalkIs l w) := by
  have HCk := Lib.hid (rcheck_any l lv w hl5 hokl hkl hts hS)
  obtain ⟨m, hm⟩ : ∃ m, l.length = m := ⟨_, rfl⟩
  have HM := Lib.hid hm
  have HKl := Lib.hid hkl
  obtain ⟨al, cl, rfl⟩ := hS.nds.shape
  have HSt : Hid (∀ W, Below w.heap.size w W → NdsAt W (.slice al l.length cl) l ∧ CapOk W (.slice al l.length cl) l) := Lib.hid fun W h => ⟨(hS.below (Nat.le_refl _) h).nds, (hS.below (Nat.le_refl _) h).cap⟩
  clear hokl hkl hts hS
  rw [hm] at HSt HCk ⊢
  go_enter Tryz.func13, Tryz.ntmps13
  go_wp2_with fail
  refine (HCk.out).mono ?_
  rintro e w1 ⟨rfl, hb1⟩
  have HB1 := Lib.hid hb1
  have hsz := hb1.size
  clear HCk hb1
  by_cases hok : (checkV l).2 = 0
  · have hT := tree_of hok
    have HT := Lib.hid hT
    have hpos : 0 < m := by have := hT.pos; omega
    have hTn : ((checkV l).2 == 0) = true := by simp [hok]
    have HE : Hid (∀ W a b z6 z7, Below w.heap.size w W → WalkOf l z6 z7 [] [] → W.ownsRow w.heap.size 3 1 a z6.length (z6.map (Value.int .i64)) → W.ownsRow w.heap.size 3 1 b z7.length (z7.map (Value.int .i64)) → WalkIs l w (.returned (.tuple #[a, b])) W) := Lib.hid fun W a b z6 z7 hb hw ha hb2 => by
      have hd := hw.done
      refine ⟨a, b, rfl, hb, ?_, ?_⟩
      · rw [if_pos hok, ← hd.1]; exact ha
      · rw [if_pos hok, ← hd.2]; exact hb2
    have HW0 := Lib.hid (WalkOf.start hT)
    have hwm : wrap64 ((m : Int) - 1) = (m : Int) - 1 := NumM.w64_id (by omega) (by omega)
    rw [HM.out] at HW0
    have r2 := Has.new w1 3 [.int .i64 ((m : Int) - 1)]
    have r3 := Has.new (w1.alloc (.cells #[.int .i64 ((m : Int) - 1)] 3)) 3 [.int .i64 0]
    have hA2 : Below w1.heap.size w1 (w1.alloc (.cells #[.int .i64 ((m : Int) - 1)] 3)) := (Below.refl _ w1).alloc (Nat.le_refl _) _
    have hA3 : Below (w1.heap.size + 1) (w1.alloc (.cells #[.int .i64 ((m : Int) - 1)] 3)) ((w1.alloc (.cells #[.int .i64 ((m : Int) - 1)] 3)).alloc (.cells #[.int .i64 0] 3)) := (Below.refl _ _).alloc (by simp) _
    have r2b := r2.below hA3 (by omega)
    simp only [World.size_alloc] at r3
    have HR0 : Hid (RowsAt w ((w1.alloc (.cells #[.int .i64 ((m : Int) - 1)] 3)).alloc (.cells #[.int .i64 0] 3)) (four (.slice none 0 0) (.slice none 0 0) (.slice (some ⟨w1.heap.size, 0, none⟩) 1 1) (.slice (some ⟨w1.heap.size + 1, 0, none⟩) 1 1)) (four [] [] [(m : Int) - 1] [0])) := Lib.hid (by
      refine ⟨(HB1.out.trans (hA2.mono hsz)).trans (hA3.mono (by omega)), ?_, ?_⟩
      · intro i hi
        match i, hi with
        | 0, _ => exact World.ownsRow_nil _ _ _ _
        | 1, _ => exact World.ownsRow_nil _ _ _ _
        | 2, _ => exact own_one hsz r2b
        | 3, _ => exact own_one (by omega) r3
      · intro i j hi hj hij g
        match i, j, hi, hj with
        | 0, _, _, _ => intro h; cases h
        | 1, _, _, _ => intro h; cases h
        | 2, 0, _, _ => intro _ h; cases h
        | 2, 1, _, _ => intro _ h; cases h
        | 2, 2, _, _ => exact absurd rfl hij
        | 2, 3, _, _ =>
          intro h h2
          injection h with h
          injection h2 with h2
          simp only at h h2
          omega
        | 3, 0, _, _ => intro _ h; cases h
        | 3, 1, _, _ => intro _ h; cases h
        | 3, 2, _, _ =>
          intro h h2
          injection h with h
          injection h2 with h2
          simp only at h h2
          omega
        | 3, 3, _, _ => exact absurd rfl hij)
    clear r2 r3 hA2 hA3 r2b hT HB1
    generalize (checkV l).1 = c1 at *
    generalize (checkV l).2 = c2 at *
    subst hok
    clear hTn
    go_wp2
    go_loopg [6, 7, 8, 9] m (fun gk v6 v7 v8 v9 wr => ∃ (s6 s7 s8 s9 : Value) (z6 z7 ns ds : List Int), s6 = v6 ∧ s7 = v7 ∧ s8 = v8 ∧ s9 = v9 ∧ gk + z6.length = m ∧ Hid (RowsAt w wr (four s6 s7 s8 s9) (four z6 z7 ns ds)) ∧ Hid (WalkOf l z6 z7 ns ds))
    case atStart => exact ⟨_, _, _, _, [], [], _, _, rfl, rfl, rfl, rfl, by simp, HR0, HW0⟩
    case round =>
      obtain ⟨s6, s7, s8, s9, z6, z7, ns, ds, rfl, rfl, rfl, rfl, hgk, HR, HW⟩ := hrel
      clear HR0 HW0 hwm
      rcases List.eq_nil_or_concat ns with rfl | ⟨ns, n, rfl⟩
      · have hds : ds = [] := List.eq_nil_of_length_eq_zero (by have := HW.out.l2; simpa using this.symm)
        subst hds
        obtain ⟨av, cap, rfl⟩ := (own_kids (HR.out.o 2 (by omega))).shape
        have HEnd := Lib.hid (HE.out _ _ _ _ _ HR.out.b HW.out (HR.out.o 0 (by omega)) (HR.out.o 1 (by omega)))
        clear HE HR HW
        go_wp2
        go_ret2
        exact HEnd.out
      · rcases List.eq_nil_or_concat ds with rfl | ⟨ds, d, rfl⟩
        · have := HW.out.l2
          simp at this
        · rw [List.concat_eq_append, List.concat_eq_append] at HR HW
          obtain ⟨h2, h3, h4, h5⟩ := HW.out.top
          obtain ⟨q, rfl⟩ : ∃ q : Nat, n = (q : Int) := ⟨n.toNat, by omega⟩
          rw [HM.out] at h5
          have hlen := HW.out.len HT.out
          rw [HM.out] at hlen
          simp only [List.length_append, List.length_cons, List.length_nil] at hlen
          obtain ⟨nn, hnn⟩ : ∃ nn, ns.length = nn := ⟨_, rfl⟩
          obtain ⟨g8, c8, e8, hc8, -, x8, hl8⟩ := HR.out.last (i := 2) (by omega) rfl hnn
          obtain ⟨g9, c9, e9, hc9, -, x9, hl9⟩ := HR.out.last (i := 3) (by omega) rfl (h2.symm.trans hnn)
          have hq : q < l.length := by rw [HM.out]; omega
          have HR1 : Hid (∀ W, W.heap = wr.heap → W.os = wr.os → W.tape = wr.tape → W.output = wr.output → RowsAt w W (four s6 s7 (.slice (some ⟨g8, 0, none⟩) nn c8) (.slice (some ⟨g9, 0, none⟩) nn c9)) (four z6 z7 ns ds)) := Lib.hid (fun W hW1 hW2 hW3 hW4 => by
            have a1 := (HR.out.same hW1 hW2 hW3 hW4).pop (i := 2) (n := nn) (g := g8) (cap := c8) (zs := ns) (by omega) e8 (by simp [four, ← hnn]) (by simp [four, hnn])
            have a2 := a1.congr (upd2 _ _ _ _ _) (upd2 _ _ _ _ _)
            have a3 := a2.pop (i := 3) (n := nn) (g := g9) (cap := c9) (zs := ds) (by omega) e9 (by simp [four, ← hnn, h2]) (by simp [four, ← hnn, h2])
            exact a3.congr (upd3 _ _ _ _ _) (upd3 _ _ _ _ _))
          simp only [four] at e8 e9
          subst e8 e9
          have HW2 := Lib.hid (HW.out.step HT.out)
          rw [ndAt_q hq] at HW2
          obtain ⟨b, o, kv, hb1, hb2, -, -, f2, -, f4⟩ := (HSt.out w (Below.refl _ _)).1.at q hq
          have HCp := Lib.hid ((HSt.out w (Below.refl _ _)).2 b o m cl (by rw [hb1]) q hq)
          have hkx := HKl.out _ (List.getElem_mem hq)
          generalize l[q].kids = ks at HW2 f2 f4 hkx
          obtain ⟨kav, kcv, rfl⟩ := f4.shape
          obtain ⟨nk, hnk⟩ : ∃ nk, ks.length = nk := ⟨_, rfl⟩
          have HNk := Lib.hid hnk
          rw [hnk] at f2 hkx HW2 f4
          subst hb1
          have hcp : nk ≤ kcv := HCp.out _ _ _ f2
          have HNode : Hid (∀ W, Below w.heap.size w W → W.cell? ⟨b, o + q * 4 + 2, none⟩ = some (.slice kav nk kcv) ∧ KidsAt W (.slice kav nk kcv) ks) := Lib.hid fun W h => ⟨(h.cell (p := ⟨b, _, none⟩) hb2).trans f2, f4.below (Nat.le_refl _) h⟩
          clear f2 f4 hb2 HCp
          have HL1 : Hid (z6.length ≤ 50000 ∧ z7.length ≤ 50000 ∧ ns.length ≤ 50000 ∧ ds.length ≤ 50000 ∧ z6.length < m) := Lib.hid (by have := HW.out.l1; omega)
          have hnd8 : (nn : Int) ≤ (c8 : Int) := by omega
          have hnd9 : (nn : Int) ≤ (c9 : Int) := by omega
          have hn0 : (0 : Int) ≤ (nn : Int) := by omega
          have hn01 : (0 : Int) < (nn : Int) + 1 := by omega
          have hnlt : (nn : Int) < (nn : Int) + 1 := by omega
          have hnle : (nn : Int) ≤ (nn : Int) + 1 := by omega
          have HG : Hid (gk + z6.length = m ∧ z6.length < m) := Lib.hid ⟨hgk, by omega⟩
          have hd0 : 0 ≤ d := h4
          have hd1 : d ≤ 100000 := by omega
          have HQ : Hid ((q : Int) < (m : Int)) := Lib.hid (by omega)
          have hws : IntKind.i64.wrap (nn : Int) = (nn : Int) := IntWalk.i64_in _ (by omega)
          clear HR HW HE hc8 hc9 h3 h4 h5 h2 hgk hlen hnn hpos hl5 hq hnk
          go_wp2
          go_quiet (fail)
          go_wp2
          go_quiet (fail)
          generalize hW0 : World.drewN (World.drewN wr _) _ = W0
          have HR2 := Lib.hid (HR1.out W0 (by rw [← hW0]; rfl) (by rw [← hW0]; rfl) (by rw [← hW0]; rfl) (by rw [← hW0]; rfl))
          obtain ⟨t6, W2, hrun1, hp1⟩ := HR2.out.push (i := 0) (by omega) 30 (q : Int) (by simp only [four]; have := HL1.out; omega)
          obtain ⟨t7, W3, hrun2, hp2⟩ := (hp1.congr (upd0 _ _ _ _ _) (upd0 _ _ _ _ _)).push (i := 1) (by omega) 30 d (by simp only [four]; have := HL1.out; omega)
          have HR3 := Lib.hid (hp2.congr (upd1 _ _ _ _ _) (upd1 _ _ _ _ _))
          have HRun1 : Hid ((Builtin.append_ #[30, 30] 30 #[s6, .slice (some ⟨W0.heap.size, 0, none⟩) 1 1]).run Tryz.prog (W0.alloc (.cells #[.int .i64 (q : Int)] 3)) = .ok t6 W2) := Lib.hid hrun1
          have HRun2 : Hid ((Builtin.append_ #[30, 30] 30 #[s7, .slice (some ⟨W2.heap.size, 0, none⟩) 1 1]).run Tryz.prog (W2.alloc (.cells #[.int .i64 d] 3)) = .ok t7 W3) := Lib.hid hrun2
          obtain ⟨n1, n2⟩ := HNode.out W3 HR3.out.b
          have HR4 : Hid (RowsAt w W3 (four t6 t7 (.slice (some ⟨g8, 0, none⟩) nn c8) (.slice (some ⟨g9, 0, none⟩) nn c9)) (four (z6 ++ [(q : Int)]) (z7 ++ [d]) (ns ++ (ks.drop nk).reverse) (ds ++ List.replicate (nk - nk) (d + 1)))) := Lib.hid (by
            rw [List.drop_eq_nil_of_le (by rw [HNk.out]; exact Nat.le_refl _), Nat.sub_self, List.reverse_nil, List.replicate_zero, List.append_nil, List.append_nil]
            exact HR3.out)
          have hqm := HQ.out
          have hq0 : (0 : Int) ≤ (q : Int) := by omega
          have HKd := Lib.hid n2
          clear hrun1 hrun2 hp1 hp2 HR1 HR2 HR3 hW0 hws n2 hnd8 hnd9 hn01 hnlt hnle
          go_wp2_with (at_builtin; first | refine wpList_append_run (by rfl) (.tmp 50) (.tmp 52) 30 rfl _ _ _ _ rfl rfl HRun1.out ?_ | refine wpList_append_run (by rfl) (.tmp 54) (.tmp 56) 30 rfl _ _ _ _ rfl rfl HRun2.out ?_)
          clear HRun1 HRun2 n1 HKd
          go_loopg [12, 8, 9] nk (fun gr v12 v8 v9 wr2 => ∃ (r : Nat) (y : Int) (s8 s9 : Value), .int .i64 y = v12 ∧ s8 = v8 ∧ s9 = v9 ∧ r = gr ∧ r ≤ nk ∧ Hid (y = (r : Int) - 1) ∧ Hid (RowsAt w wr2 (four t6 t7 s8 s9) (four (z6 ++ [(q : Int)]) (z7 ++ [d]) (ns ++ (ks.drop r).reverse) (ds ++ List.replicate (nk - r) (d + 1)))))
          case atStart => exact ⟨nk, _, _, _, rfl, rfl, rfl, rfl, Nat.le_refl _, Lib.hid rfl, HR4⟩
          case round =>
            obtain ⟨r, y, s8, s9, rfl, rfl, rfl, rfl, hr, Hy, HRr⟩ := hrel
            clear HR4
            rcases Nat.eq_zero_or_pos r with rfl | hpos
            · have hy1 : y = -1 := by have := Hy.out; omega
              subst hy1
              have HE2 : Hid (RowsAt w wr (four t6 t7 s8 s9) (four (z6 ++ [(q : Int)]) (z7 ++ [d]) (ns ++ ks.reverse) (ds ++ List.replicate nk (d + 1)))) := Lib.hid (by simpa using HRr.out)
              have HG2 : Hid (gk - 1 + (z6 ++ [(q : Int)]).length = m ∧ gk - 1 < gk) := Lib.hid (by
                have := HG.out
                rw [List.length_append]
                simp only [List.length_cons, List.length_nil]
                omega)
              clear HRr Hy
              go_wp2
              go_roundg (gk - 1)
              case measure => exact HG2.out.2
              case rel => exact ⟨_, _, _, _, _, _, _, _, rfl, rfl, rfl, rfl, HG2.out.1, HE2, HW2⟩
            · obtain ⟨p, rfl⟩ : ∃ p, r = p + 1 := ⟨r - 1, by omega⟩
              have hy1 : y = (p : Int) := by have := Hy.out; omega
              subst hy1
              have hpl : p < ks.length := by rw [HNk.out]; omega
              obtain ⟨n1, n2⟩ := HNode.out wr HRr.out.b
              obtain ⟨g, o3, rfl, -, c1⟩ := n2.at p hpl
              have HK1 := Lib.hid (rev_drop hpl)
              have HK2 : Hid (List.replicate (nk - p) (d + 1) = List.replicate (nk - (p + 1)) (d + 1) ++ [d + 1]) := Lib.hid (repl_less (by omega) (d + 1))
              have hlz : (ns ++ (ks.drop (p + 1)).reverse).length ≤ 100000000 ∧ (ds ++ List.replicate (nk - (p + 1)) (d + 1)).length ≤ 100000000 := by
                have := HL1.out
                have := HNk.out
                rw [List.length_append, List.length_append, List.length_reverse, List.length_drop, List.length_replicate]
                omega
              obtain ⟨t8, W5, hrun1, hp1⟩ := HRr.out.push (i := 2) (by omega) 30 ks[p] (by simpa only [four] using hlz.1)
              obtain ⟨t9, W6, hrun2, hp2⟩ := (hp1.congr (upd2 _ _ _ _ _) (upd2 _ _ _ _ _)).push (i := 3) (by omega) 30 (d + 1) (by simpa only [four] using hlz.2)
              have HR5 : Hid (RowsAt w W6 (four t6 t7 t8 t9) (four (z6 ++ [(q : Int)]) (z7 ++ [d]) (ns ++ (ks.drop p).reverse) (ds ++ List.replicate (nk - p) (d + 1)))) := Lib.hid (by
                have h := hp2.congr (upd3 _ _ _ _ _) (upd3 _ _ _ _ _)
                rw [HK1.out, HK2.out, ← List.append_assoc, ← List.append_assoc]
                exact h)
              generalize ks[p] = x at c1 hrun1
              have HRun1 : Hid ((Builtin.append_ #[30, 30] 30 #[s8, .slice (some ⟨wr.heap.size, 0, none⟩) 1 1]).run Tryz.prog (wr.alloc (.cells #[.int .i64 x] 3)) = .ok t8 W5) := Lib.hid hrun1
              have HRun2 : Hid ((Builtin.append_ #[30, 30] 30 #[s9, .slice (some ⟨W5.heap.size, 0, none⟩) 1 1]).run Tryz.prog (W5.alloc (.cells #[.int .i64 (d + 1)] 3)) = .ok t9 W6) := Lib.hid hrun2
              have hp0 : (0 : Int) ≤ (p : Int) := by omega
              have hpk : (p : Int) < (nk : Int) := by omega
              clear hrun1 hrun2 hp1 hp2 HRr Hy hpos n2 HK1 HK2 hlz hpl
              go_wp2_with (at_builtin; first | refine wpList_append_run (by rfl) (.tmp 69) (.tmp 78) 30 rfl _ _ _ _ rfl rfl HRun1.out ?_ | refine wpList_append_run (by rfl) (.tmp 80) (.tmp 83) 30 rfl _ _ _ _ rfl rfl HRun2.out ?_)
              go_roundg p
              case measure => omega
              case rel => exact ⟨p, _, _, _, rfl, rfl, rfl, rfl, by omega, Lib.hid rfl, HR5⟩
  · have hTn : ((checkV l).2 == 0) = false := by simp [hok]
    have HE : Hid (WalkIs l w (.returned (.tuple #[.slice none 0 0, .slice none 0 0])) w1) := Lib.hid ⟨_, _, rfl, HB1.out, by rw [if_neg hok]; exact World.ownsRow_nil _ _ _ _, by rw [if_neg hok]; exact World.ownsRow_nil _ _ _ _⟩
    generalize (checkV l).1 = c1 at *
    generalize (checkV l).2 = c2 at *
    go_wp2
    go_ret2
    exact HE.out
end TreeD
end Go.Proofs.YtakdmlaecidjaaaGreatDoor
