/- TableReads. -/
import Derived.Test.YtpmbbkhhnkhcbaaTab41
namespace Go.Proofs.Ytpmbbkhhnkhcbaa
open Go.RowKit Go.WideShapes Go.ChangeShapes ObjM Go.Maps
namespace TabD
open LabelM LabelD ValD

theorem both_key {W : World} {B T R lab N : Nat} {fs : List Fd} {ss : List St} {O : List Nat} (h : Both W B T R lab N fs ss O) (n : Int) : Calls Try.prog 19 #[.pointer (some ⟨T, 0, none⟩), .int .i64 n] W fun e w' => ∃ (v : V) (b : Bool), e = .returned (.tuple #[v.agg, .bool b]) ∧ Below W.heap.size W w' := by
  obtain ⟨fv, pm, sv, nm, gv, rv, h1, -⟩ := h
  by_cases ha : n < 1 ∨ (fs.length : Int) < n
  · exact (key_no B T lab fs fv sv (.map nm) pm n ha W h1.1).mono fun _ _ ⟨he, hb⟩ => ⟨zeroV, false, he, hb⟩
  · obtain ⟨i, rfl⟩ : ∃ i : Nat, n = (i : Int) + 1 := ⟨(n - 1).toNat, by omega⟩
    have hi : i < fs.length := by omega
    exact (key_at B T lab fs fv sv (.map nm) pm i _ (List.getElem?_eq_getElem hi) W h1.1).mono fun _ _ ⟨he, hb⟩ => ⟨_, true, he, hb⟩
theorem both_fd {W : World} {B T R lab N : Nat} {fs : List Fd} {ss : List St} {O : List Nat} (h : Both W B T R lab N fs ss O) : ∀ f ∈ fs, VOk f.1 ∧ VOk f.2 := by
  obtain ⟨fv, pm, sv, nm, gv, rv, h1, -⟩ := h
  exact h1.1.2.2.2.2.2.1
set_option maxRecDepth 100000 in
set_option maxHeartbeats 16000000 in
theorem tableReads_any (own : Nat) (ho : own < M64) (la lk : List ActT) (v u : Value) (w : World) (hl : ActsT w v la) (hlo : ∀ a ∈ la, ActOk a) (hk : ActsT w u lk) (hko : ∀ a ∈ lk, ActOk a) :
    Calls Try.prog 7 #[.int .u64 (own : Int), v, u] w fun e w' => e = .returned (.bool true) ∧ Below w.heap.size w w' := by
  obtain ⟨av, cap, rfl, hlen⟩ := hl.shape
  obtain ⟨ak, capk, rfl, hlenk⟩ := hk.shape
  have HA := fun W => Lib.hid (awake_any W)
  have HL := Lib.hid hl
  have HLO := Lib.hid hlo
  have HLk := Lib.hid hk
  have HLkO := Lib.hid hko
  clear hl hlo hk hko
  go_enter Try.func7, Try.ntmps7
  go_wp2_with fail
  with_reducible refine ((HA _).out).mono ?_
  rintro e w1 ⟨rfl, hb1⟩
  have HB1 := Lib.hid hb1
  clear hb1
  have HF := Lib.hid (few_any la _ w1 (HL.out.below (Nat.le_refl _) HB1.out) HLO.out)
  go_wp2_with fail
  refine (HF.out).mono ?_
  rintro e w2 ⟨b, rfl, hb, hb2⟩
  have HB2 := Lib.hid (HB1.out.trans (hb2.mono HB1.out.size))
  have HCost := Lib.hid hb
  clear hb hb2 HF HB1
  cases b
  · go_wp2
    go_ret
    exact ⟨rfl, HB2.out⟩
  have HF := Lib.hid (few_any lk _ w2 (HLk.out.below (Nat.le_refl _) HB2.out) HLkO.out)
  go_wp2_with fail
  refine (HF.out).mono ?_
  rintro e w4 ⟨b, rfl, hb, hb4⟩
  have HB4 := Lib.hid (HB2.out.trans (hb4.mono HB2.out.size))
  clear hb hb4 HF HB2
  cases b
  · go_wp2
    go_ret
    exact ⟨rfl, HB4.out⟩
  have hN1 : costA la ≤ 2000 := HCost.out (by trivial)
  go_wp2_with fail
  refine (tnew_any own w4).mono ?_
  rintro e w5 ⟨rfl, hw5⟩
  subst hw5
  have HBo := Lib.hid (both_new w4 own ho)
  have hb5 := ((Below.refl w4.heap.size w4).alloc (Nat.le_refl _) (.cells #[.int .u64 (own : Int), .slice none 0 0, .map none, .slice none 0 0, .map none] 66)).alloc (by simp) (.cells #[.int .u64 (own : Int), .slice none 0 0, .slice none 0 0] 33)
  have HBw := Lib.hid hb5
  clear hb5
  obtain ⟨n0, hn0⟩ : ∃ n, w4.heap.size = n := ⟨_, rfl⟩
  have HN0 := Lib.hid hn0
  have HL4 := Lib.hid (HL.out.below (Nat.le_refl _) HB4.out)
  have HLk4 := Lib.hid (HLk.out.below (Nat.le_refl _) HB4.out)
  have hwn : w.heap.size ≤ n0 := by rw [← hn0]; exact HB4.out.size
  simp only [hn0] at HBo HBw
  go_wp2
  clear hn0
  go_loopw [36] (fun i wr => ∃ (k : Nat) (fs : List Fd) (ss : List St) (O : List Nat), i = .int .i64 k ∧ k ≤ la.length ∧ Hid (Both wr n0 n0 (n0 + 1) own (costA (la.take k)) fs ss O) ∧ Hid (Below n0 w4 wr)) (fun i _ => la.length - (intOf i).toNat)
  case atStart => exact ⟨0, [], [], _, rfl, Nat.zero_le _, HBo, HBw⟩
  case round =>
    obtain ⟨k, fs, ss, O, rfl, hk, HBk, HBl⟩ := hrel
    have HBw6 : Hid (Below w.heap.size w wr) := Lib.hid (HB4.out.trans (HBl.out.mono hwn))
    by_cases hlt : k < la.length
    · obtain ⟨a, hak⟩ : ∃ a, la[k]? = some a := ⟨_, List.getElem?_eq_getElem hlt⟩
      obtain ⟨b, o, sv, rfl, hbl, hsv, hcs⟩ := HL4.out.at (Nat.le_of_eq HN0.out) HBl.out hak
      obtain ⟨asl2, acp2, rfl, -⟩ := id hsv
      have HCk := Lib.hid (costA_take hak)
      have hle := costA_le la (k + 1)
      have HOk := Lib.hid (HLO.out a (List.mem_of_getElem? hak))
      have hbo := HBk.out.below ((Below.refl wr.heap.size wr).alloc (Nat.le_refl _) (.cells (a.cells (.slice asl2 a.st.length acp2)).toArray 37))
      have hbl6 := HBl.out.alloc (Nat.le_trans (by rw [← HN0.out]; exact Nat.le_refl _) HBl.out.size) (.cells (a.cells (.slice asl2 a.st.length acp2)).toArray 37)
      have HAct := Lib.hid (act_any _ w4 n0 n0 (n0 + 1) own (costA (la.take k)) fs ss O hbo a _ HOk.out (Nat.le_of_eq HN0.out) hbl6 hsv (by rw [← HCk.out]; omega))
      rw [← HCk.out] at HAct
      have HBo6 := Lib.hid hbo
      have HBl6 := Lib.hid hbl6
      have hnew := Has.new wr 37 (a.cells (.slice asl2 a.st.length acp2))
      obtain ⟨r1, hr1⟩ : ∃ r, actF own fs ss a = r := ⟨_, rfl⟩
      rw [hr1] at HAct
      obtain ⟨fs1, ss1⟩ := r1
      obtain ⟨d', c', ⟨kk', kn', ks', kl'⟩, ⟨xk', xn', xs', xl'⟩, nn', st'⟩ := a
      have p0 := hcs 0 _ rfl
      have p1 := hcs 1 _ rfl
      have p2 := hcs 2 _ rfl
      have p3 := hcs 3 _ rfl
      have p4 := hcs 4 _ rfl
      have p5 := hcs 5 _ rfl
      have p6 := hcs 6 _ rfl
      have p7 := hcs 7 _ rfl
      have p8 := hcs 8 _ rfl
      have p9 := hcs 9 _ rfl
      have p10 := hcs 10 _ rfl
      have p11 := hcs 11 _ rfl
      simp only [Nat.add_zero] at p0
      have r0 := hnew.cell 0
      have r1 := hnew.cell 1
      have r2 := hnew.cell 2
      have r3 := hnew.cell 3
      have r4 := hnew.cell 4
      have r5 := hnew.cell 5
      have r6 := hnew.cell 6
      have r7 := hnew.cell 7
      have r8 := hnew.cell 8
      have r9 := hnew.cell 9
      have r10 := hnew.cell 10
      have r11 := hnew.cell 11
      have rl := hnew.lt
      simp only [ActT.cells, List.getElem?_cons_zero, List.getElem?_cons_succ] at r0 r1 r2 r3 r4 r5 r6 r7 r8 r9 r10 r11 rl HAct HBl6
      clear hcs hnew hak hbo hbl6 hr1 hsv
      go_wp2_with fail
      refine (HAct.out).mono ?_
      rintro e w7 ⟨rfl, O', hbo7, hos7⟩
      have HBo7 := Lib.hid hbo7
      have HBl7 : Hid (Below n0 w4 w7) := Lib.hid (HBl6.out.trans (hos7.toBelow HBo6.out))
      clear hbo7 hos7 p0 p1 p2 p3 p4 p5 p6 p7 p8 p9 p10 p11 r0 r1 r2 r3 r4 r5 r6 r7 r8 r9 r10 r11 rl
      go_wp2
      go_roundw
      case rel => exact ⟨k + 1, fs1, ss1, O', by go_num, by omega, HBo7, HBl7⟩
      case measure => simp [intOf]; omega
    · have : k = la.length := by omega
      subst this
      have hbk := HBk.out
      rw [List.take_length] at hbk
      have HBk := Lib.hid hbk
      clear hbk
      have HTw := Lib.hid (twin_any HBk.out)
      go_wp2_with fail
      refine (HTw.out).mono ?_
      rintro e w7 ⟨Q, O7, rfl, hbo7, hb7⟩
      have HSt : Hid (Both w7 n0 n0 Q own (costA la) fs ss O7 ∧ Below n0 w4 w7) := Lib.hid ⟨hbo7, HBl.out.trans (hb7.mono (both_size HBk.out))⟩
      have hlens := both_lens hbo7
      clear hbo7 hb7 HTw HBk
      go_wp2
      go_loopw [49] (fun i wz => ∃ k : Nat, i = .int .i64 k ∧ k ≤ lk.length ∧ Hid (Both wz n0 n0 Q own (costA la) fs ss O7 ∧ Below n0 w4 wz)) (fun i _ => lk.length - (intOf i).toNat)
      case atStart => exact ⟨0, rfl, Nat.zero_le _, HSt⟩
      case round =>
        obtain ⟨k, rfl, hk, HS⟩ := hrel
        by_cases hlt : k < lk.length
        · obtain ⟨a, hak⟩ : ∃ a, lk[k]? = some a := ⟨_, List.getElem?_eq_getElem hlt⟩
          obtain ⟨b, o, sv, rfl, hbl, hsv, hcs⟩ := HLk4.out.at (Nat.le_of_eq HN0.out) HS.out.2 hak
          obtain ⟨asl2, acp2, rfl, -⟩ := hsv
          have HOk := Lib.hid (HLkO.out a (List.mem_of_getElem? hak))
          obtain ⟨d', c', ⟨kk', kn', ks', kl'⟩, ⟨xk', xn', xs', xl'⟩, nn', st'⟩ := a
          have p0 := hcs 0 _ rfl
          have p1 := hcs 1 _ rfl
          have p2 := hcs 2 _ rfl
          have p3 := hcs 3 _ rfl
          have p4 := hcs 4 _ rfl
          have p5 := hcs 5 _ rfl
          have p6 := hcs 6 _ rfl
          have p7 := hcs 7 _ rfl
          have p8 := hcs 8 _ rfl
          have p9 := hcs 9 _ rfl
          have p10 := hcs 10 _ rfl
          have p11 := hcs 11 _ rfl
          simp only [Nat.add_zero] at p0
          have hbn := (Below.refl wr.heap.size wr).alloc (Nat.le_refl _) (.cells #[.int .i64 d', .int .u64 (c' : Int), .int .i64 kk', .int .i64 kn', .string ks', .int .u64 (kl' : Int), .int .i64 xk', .int .i64 xn', .string xs', .int .u64 (xl' : Int), .int .i64 nn', .slice asl2 st'.length acp2] 37)
          have HBo8 := Lib.hid (HS.out.1.below hbn)
          have HBl8 := Lib.hid (HS.out.2.trans (hbn.mono (both_size HS.out.1)))
          have HX8 := Lib.hid (Has.new wr 37 [.int .i64 d', .int .u64 (c' : Int), .int .i64 kk', .int .i64 kn', .string ks', .int .u64 (kl' : Int), .int .i64 xk', .int .i64 xn', .string xs', .int .u64 (xl' : Int), .int .i64 nn', .slice asl2 st'.length acp2])
          have HG := Lib.hid (fun (W : World) (hW : Both W n0 n0 Q own (costA la) fs ss O7) => both_get hW ⟨kk', kn', ks', kl'⟩ HOk.out.2.1)
          obtain ⟨V0, hV0⟩ : ∃ x, (valOf fs ⟨kk', kn', ks', kl'⟩).with (kl' ||| own) = x := ⟨_, rfl⟩
          simp only [hV0] at HG
          obtain ⟨gk, gn, gs, gl⟩ := V0
          simp only [V.agg] at HG
          have x2 := HX8.out.cell 2
          have x3 := HX8.out.cell 3
          have x4 := HX8.out.cell 4
          have x5 := HX8.out.cell 5
          have xl := HX8.out.lt
          simp only [List.getElem?_cons_zero, List.getElem?_cons_succ] at x2 x3 x4 x5
          clear hcs hak hV0 hbn
          go_wp2_with fail
          refine (HG.out _ HBo8.out).mono ?_
          rintro e w9 ⟨rfl, hb9⟩
          simp only [V.agg]
          have hb9' := hb9.alloc hb9.size (.cells #[.int .i64 gk, .int .i64 gn, .string gs, .int .u64 (gl : Int)] 35)
          have HBo9 := Lib.hid (HBo8.out.below hb9')
          have HBl9 := Lib.hid (HBl8.out.trans (hb9'.mono (both_size HBo8.out)))
          have HX9 := Lib.hid (HX8.out.below hb9' HX8.out.lt)
          have HV9 := Lib.hid (Has.new w9 35 [.int .i64 gk, .int .i64 gn, .string gs, .int .u64 (gl : Int)])
          clear p0 p1 p2 p3 p4 p5 p6 p7 p8 p9 p10 p11 x2 x3 x4 x5 xl hb9 hb9' HBo8 HBl8 HX8
          have x10 := HX9.out.cell 10
          have xl := HX9.out.lt
          simp only [List.getElem?_cons_zero, List.getElem?_cons_succ] at x10
          have HKy := Lib.hid (both_key HBo9.out nn')
          go_wp2_with fail
          clear x10 xl
          generalize World.alloc w9 _ = W9 at HBo9 HBl9 HX9 HV9 HKy ⊢
          refine (HKy.out).mono ?_
          rintro e w10 ⟨v10, b10, rfl, hb10⟩
          obtain ⟨z0, z1, z2, z3⟩ := v10
          simp only [V.agg]
          have HBo10 := Lib.hid (HBo9.out.below hb10)
          have HBl10 := Lib.hid (HBl9.out.trans (hb10.mono (both_size HBo9.out)))
          have HX10 := Lib.hid (HX9.out.below hb10 HX9.out.lt)
          have HV10 := Lib.hid (HV9.out.below hb10 HV9.out.lt)
          clear hb10 HKy HBo9 HBl9 HX9 HV9
          have HFi := Lib.hid (both_fields HBo10.out)
          go_wp2_with fail
          refine (HFi.out).mono ?_
          rintro e w11 ⟨u11, rfl, ho11, hb11⟩
          obtain ⟨a11, c11, rfl⟩ := own_slice ho11
          have HM : Hid (Both w11 n0 n0 Q own (costA la) fs ss O7 ∧ Below n0 w4 w11 ∧ w11.ownsRow n0 42 8 (.slice a11 fs.length c11) fs.length (rowF fs) ∧ Has w11 wr.heap.size 37 [.int .i64 d', .int .u64 (c' : Int), .int .i64 kk', .int .i64 kn', .string ks', .int .u64 (kl' : Int), .int .i64 xk', .int .i64 xn', .string xs', .int .u64 (xl' : Int), .int .i64 nn', .slice asl2 st'.length acp2] ∧ Has w11 w9.heap.size 35 [.int .i64 gk, .int .i64 gn, .string gs, .int .u64 (gl : Int)]) := Lib.hid ⟨HBo10.out.below hb11, HBl10.out.trans (hb11.mono (both_size HBo10.out)), own_base ho11 (both_size HBo10.out), HX10.out.below hb11 HX10.out.lt, HV10.out.below hb11 HV10.out.lt⟩
          have HFd := Lib.hid (both_fd HBo10.out)
          obtain ⟨PV, hPV⟩ : ∃ P, w9.heap.size = P := ⟨_, rfl⟩
          obtain ⟨PB, hPB⟩ : ∃ P, wr.heap.size = P := ⟨_, rfl⟩
          rw [hPV, hPB] at HM
          clear ho11 hb11 HFi HBo10 HBl10 HX10 HV10
          go_wp2
          clear hPV hPB
          go_loopw [64] (fun i wz => ∃ j : Nat, i = .int .i64 j ∧ j ≤ fs.length ∧ Hid (Both wz n0 n0 Q own (costA la) fs ss O7 ∧ Below n0 w4 wz ∧ wz.ownsRow n0 42 8 (.slice a11 fs.length c11) fs.length (rowF fs) ∧ Has wz PB 37 [.int .i64 d', .int .u64 (c' : Int), .int .i64 kk', .int .i64 kn', .string ks', .int .u64 (kl' : Int), .int .i64 xk', .int .i64 xn', .string xs', .int .u64 (xl' : Int), .int .i64 nn', .slice asl2 st'.length acp2] ∧ Has wz PV 35 [.int .i64 gk, .int .i64 gn, .string gs, .int .u64 (gl : Int)])) (fun i _ => fs.length - (intOf i).toNat)
          case atStart => exact ⟨0, rfl, Nat.zero_le _, HM⟩
          case round =>
            obtain ⟨j, rfl, hj, HM2⟩ := hrel
            by_cases hjl : j < fs.length
            · obtain ⟨⟨⟨y0, y1, y2, y3⟩, ⟨y4, y5, y6, y7⟩⟩, hf⟩ : ∃ f, fs[j]? = some f := ⟨_, List.getElem?_eq_getElem hjl⟩
              obtain ⟨g11, rfl, l11, q0, q1, q2, q3, q4, q5, q6, q7⟩ := field_at HM2.out.2.2.1 hf
              have hvk := (HFd.out _ (List.mem_of_getElem? hf)).1
              have hi1 : (j : Int) < (fs.length : Int) := by omega
              have hi0 : (0 : Int) ≤ (j : Int) := by omega
              have HJ : Hid (j < fs.length) := Lib.hid hjl
              have hbn := (Below.refl wr.heap.size wr).alloc (Nat.le_refl _) (.cells #[.int .i64 y0, .int .i64 y1, .string y2, .int .u64 (y3 : Int), .int .i64 y4, .int .i64 y5, .string y6, .int .u64 (y7 : Int)] 42)
              have HBN := Lib.hid hbn
              have HG2 := Lib.hid (both_get (HM2.out.1.below hbn) ⟨y0, y1, y2, y3⟩ hvk)
              have hnx := Has.new wr 42 [.int .i64 y0, .int .i64 y1, .string y2, .int .u64 (y3 : Int), .int .i64 y4, .int .i64 y5, .string y6, .int .u64 (y7 : Int)]
              have r0 := hnx.cell 0
              have r1 := hnx.cell 1
              have r2 := hnx.cell 2
              have r3 := hnx.cell 3
              have rl := hnx.lt
              simp only [List.getElem?_cons_zero, List.getElem?_cons_succ] at r0 r1 r2 r3
              clear hf hvk hbn hnx
              go_wp2_with fail
              refine (HG2.out).mono ?_
              rintro e w12 ⟨rfl, hb12⟩
              have hb := HBN.out.trans (hb12.mono HBN.out.size)
              have HM3 := Lib.hid (And.intro (HM2.out.1.below hb) (And.intro (HM2.out.2.1.trans (hb.mono (both_size HM2.out.1))) (And.intro (own_keeps HM2.out.2.2.1 (Keeps.below' hb []) (by simp)) (And.intro (HM2.out.2.2.2.1.below hb HM2.out.2.2.2.1.lt) (HM2.out.2.2.2.2.below hb HM2.out.2.2.2.2.lt)))))
              clear hb hb12 r0 r1 r2 r3 rl q0 q1 q2 q3 q4 q5 q6 q7
              go_wp2
              go_roundw
              case rel => exact ⟨j + 1, by go_num, HJ.out, HM3⟩
              case measure => have := HJ.out; simp [intOf]; omega
            · have : j = fs.length := by omega
              subst this
              have hne := fun W => neSelf W gk gn gs (gl : Int)
              have hee := fun W => eqSelfIn W gk gn gs (gl : Int)
              have q2 := HM2.out.2.2.2.1.cell 2
              have q3 := HM2.out.2.2.2.1.cell 3
              have q4 := HM2.out.2.2.2.1.cell 4
              have q5 := HM2.out.2.2.2.1.cell 5
              have ql := HM2.out.2.2.2.1.lt
              have z0 := HM2.out.2.2.2.2.cell 0
              have z1 := HM2.out.2.2.2.2.cell 1
              have z2 := HM2.out.2.2.2.2.cell 2
              have z3 := HM2.out.2.2.2.2.cell 3
              have zl := HM2.out.2.2.2.2.lt
              simp only [List.getElem?_cons_zero, List.getElem?_cons_succ] at q2 q3 q4 q5 z0 z1 z2 z3
              have HSS : Hid (∀ W', Below wr.heap.size wr W' → W'.cell? ⟨PB, 2, none⟩ = some (.int .i64 kk') ∧ W'.cell? ⟨PB, 3, none⟩ = some (.int .i64 kn') ∧ W'.cell? ⟨PB, 4, none⟩ = some (.string ks') ∧ W'.cell? ⟨PB, 5, none⟩ = some (.int .u64 (kl' : Int)) ∧ W'.cell? ⟨PV, 0, none⟩ = some (.int .i64 gk) ∧ W'.cell? ⟨PV, 1, none⟩ = some (.int .i64 gn) ∧ W'.cell? ⟨PV, 2, none⟩ = some (.string gs) ∧ W'.cell? ⟨PV, 3, none⟩ = some (.int .u64 (gl : Int))) := Lib.hid (fun W' hb => by
                have hx := HM2.out.2.2.2.1.below hb HM2.out.2.2.2.1.lt
                have hz := HM2.out.2.2.2.2.below hb HM2.out.2.2.2.2.lt
                exact ⟨hx.cell 2, hx.cell 3, hx.cell 4, hx.cell 5, hz.cell 0, hz.cell 1, hz.cell 2, hz.cell 3⟩)
              have p0 := (Below.refl wr.heap.size wr).drew
              go_wp2
              go_region_held3 (fun W' => W'.cell? ⟨PB, 2, none⟩ = some (.int .i64 kk') ∧ W'.cell? ⟨PB, 3, none⟩ = some (.int .i64 kn') ∧ W'.cell? ⟨PB, 4, none⟩ = some (.string ks') ∧ W'.cell? ⟨PB, 5, none⟩ = some (.int .u64 (kl' : Int)) ∧ W'.cell? ⟨PV, 0, none⟩ = some (.int .i64 gk) ∧ W'.cell? ⟨PV, 1, none⟩ = some (.int .i64 gn) ∧ W'.cell? ⟨PV, 2, none⟩ = some (.string gs) ∧ W'.cell? ⟨PV, 3, none⟩ = some (.int .u64 (gl : Int)))
                (first | exact HSS.out _ p0 | exact HSS.out _ p1 | skip)
                (first
                  | (go_at_call 14
                     refine (HG.out _ (HM2.out.1.below p0)).mono ?_
                     rintro e w12 ⟨rfl, hb12⟩
                     simp only [V.agg]
                     have p1 := p0.trans (hb12.mono p0.size)))
              all_goals
                have HS3 := Lib.hid (And.intro (HM2.out.1.below p1) (HM2.out.2.1.trans (p1.mono (both_size HM2.out.1))))
                clear p0 p1
                go_wp2
                go_roundw
                case rel => exact ⟨k + 1, by go_num, by omega, HS3⟩
                case measure => simp [intOf]; omega
        · have : k = lk.length := by omega
          subst this
          have HAl := Lib.hid (alike_any HS.out.1)
          go_wp2_with fail
          refine (HAl.out).mono ?_
          rintro e w11 ⟨rfl, hb11⟩
          have HE := Lib.hid (HB4.out.trans ((HS.out.2.trans (hb11.mono (both_size HS.out.1))).mono hwn))
          clear hb11
          go_wp2
          go_ret
          exact ⟨rfl, HE.out⟩
section
variable {H : Type} {enc : TypeId × Value → H}
theorem tableReads_u {r : Reach} {b0 : Nat} {d d' : DataW H} {ps ps' : List MemPlace} {sp : Nat → Bool} (l : Int) (hl : 0 ≤ l ∧ l ≤ 18446744073709551615) (v1 v2 : Value) (w : World) (g1 : Value.okWide Try.prog w r b0 24 v1) (h1 : DataW.Trod enc Try.prog w 0 sp true 24 v1 d ps)
    (hw1 : ∀ n ∈ d.weights Try.prog 24, n ≤ reachBytes) (g2 : Value.okWide Try.prog w r b0 24 v2) (h2 : DataW.Trod enc Try.prog w 0 sp true 24 v2 d' ps') (hw2 : ∀ n ∈ d'.weights Try.prog 24, n ≤ reachBytes) :
    Calls Try.prog 7 #[.int .u64 l, v1, v2] w fun e w' => e = .returned (.bool true) ∧ Below w.heap.size w w' := by
  obtain ⟨n, rfl⟩ : ∃ n : Nat, l = n := ⟨l.toNat, by omega⟩
  obtain ⟨la, hv, hla⟩ := open_acts g1 h1 hw1
  obtain ⟨lk, hk, hlk⟩ := open_acts g2 h2 hw2
  exact tableReads_any n (by unfold M64; omega) la lk v1 v2 w hv hla hk hlk
end
end TabD
end Go.Proofs.Ytpmbbkhhnkhcbaa
