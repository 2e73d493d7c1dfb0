/- TableMonotone. -/
import Derived.Test.YtpmbbkhhnkhcbaaTab38
namespace Go.Proofs.Ytpmbbkhhnkhcbaa
open Go.RowKit Go.WideShapes Go.ChangeShapes ObjM Go.Maps
namespace TabD
open LabelM LabelD ValD

theorem both_fields {W : World} {B T R lab N : Nat} {fs : List Fd} {ss : List St} {O : List Nat} (h : Both W B T R lab N fs ss O) : Calls Try.prog 11 #[.pointer (some ⟨T, 0, none⟩)] W fun e W' => ∃ u, e = .returned u ∧ W'.ownsRow W.heap.size 42 8 u fs.length (rowF fs) ∧ Below W.heap.size W W' := by
  obtain ⟨fv, pm, sv, nm, gv, rv, h1, -⟩ := h
  exact fields_any B T lab fs fv sv (.map nm) pm W h1.1
theorem both_stamps {W : World} {B T R lab N : Nat} {fs : List Fd} {ss : List St} {O : List Nat} (h : Both W B T R lab N fs ss O) : Calls Try.prog 12 #[.pointer (some ⟨T, 0, none⟩)] W (CloneIs W ss.length (rowS ss)) := by
  obtain ⟨fv, pm, sv, nm, gv, rv, h1, _, _, _, _, _, hN, _⟩ := h
  exact stamps_any B T _ _ _ _ sv ss W h1.1.1 h1.2.1.1 (by have := h1.2.1.2.2.2.1; omega)
theorem both_get {W : World} {B T R lab N : Nat} {fs : List Fd} {ss : List St} {O : List Nat} (h : Both W B T R lab N fs ss O) (key : V) (hv : VOk key) : Calls Try.prog 14 #[.pointer (some ⟨T, 0, none⟩), key.agg] W (GetIs W ((valOf fs key).with (key.l ||| lab))) := by
  obtain ⟨fv, pm, sv, nm, gv, rv, h1, -⟩ := h
  exact get_any B T lab fs fv sv (.map nm) pm key hv W h1.1
theorem both_lens {W : World} {B T R lab N : Nat} {fs : List Fd} {ss : List St} {O : List Nat} (h : Both W B T R lab N fs ss O) : fs.length ≤ 100000 ∧ ss.length ≤ 100000 := by
  obtain ⟨fv, pm, sv, nm, gv, rv, h1, _, _, _, _, h6, h7, _⟩ := h
  have := h1.2.1.2.2.2.1
  omega
theorem both_nd {W : World} {B T R lab N : Nat} {fs : List Fd} {ss : List St} {O : List Nat} (h : Both W B T R lab N fs ss O) : ND ss := by
  obtain ⟨fv, pm, sv, nm, gv, rv, _, _, _, _, h5, _⟩ := h
  exact h5
theorem both_sts {W : World} {B T R lab N : Nat} {fs : List Fd} {ss : List St} {O : List Nat} (h : Both W B T R lab N fs ss O) : ∀ s ∈ ss, StOk s := by
  obtain ⟨fv, pm, sv, nm, gv, rv, h1, _⟩ := h
  exact h1.2.1.2.2.1
theorem neSelf (W : World) (k n : Int) (s : ByteArray) (l : Int) : Sem.run Try.prog (binOp BinOp.neq 35 (.agg #[.int .i64 k, .int .i64 n, .string s, .int .u64 l]) (.agg #[.int .i64 k, .int .i64 n, .string s, .int .u64 l])) W = .ok (.bool false) W := by
  simp only [go_sem, eqSelfIn, Result.andThen]
  rfl
/-- What the inner rounds look at. -/
structure M4 (n0 own N : Nat) (fs fs1 : List Fd) (ss ss1 : List St) (O : List Nat) (u9 u10 u11 u12 : Value) (w4 W : World) : Prop where
  both : Both W n0 n0 (n0 + 1) own N fs1 ss1 O
  below : Below n0 w4 W
  r9 : W.ownsRow n0 42 8 u9 fs.length (rowF fs)
  r10 : W.ownsRow n0 44 2 u10 ss.length (rowS ss)
  r11 : W.ownsRow n0 42 8 u11 fs1.length (rowF fs1)
  r12 : W.ownsRow n0 44 2 u12 ss1.length (rowS ss1)
theorem M4.next {n0 own N : Nat} {fs fs1 : List Fd} {ss ss1 : List St} {O : List Nat} {u9 u10 u11 u12 : Value} {w4 W W' : World} (h : M4 n0 own N fs fs1 ss ss1 O u9 u10 u11 u12 w4 W) (hn : n0 ≤ W.heap.size) (hb : Below W.heap.size W W') : M4 n0 own N fs fs1 ss ss1 O u9 u10 u11 u12 w4 W' :=
  ⟨h.both.below hb, h.below.trans (hb.mono hn), own_keeps h.r9 (Keeps.below' hb []) (by simp), own_keeps h.r10 (Keeps.below' hb []) (by simp), own_keeps h.r11 (Keeps.below' hb []) (by simp), own_keeps h.r12 (Keeps.below' hb []) (by simp)⟩
theorem both_size {W : World} {B T R lab N : Nat} {fs : List Fd} {ss : List St} {O : List Nat} (h : Both W B T R lab N fs ss O) : B ≤ W.heap.size := by
  obtain ⟨fv, pm, sv, nm, gv, rv, _, _, _, _, _, _, _, _, h9⟩ := h
  exact h9
/-- A row that came after the tables' blocks. -/
theorem own_step {W W0 W' : World} {e : TypeId} {size n : Nat} {u : Value} {xs : List Value} {O O' : List Nat} (h : W.ownsRow W0.heap.size e size u n xs) (hO : ∀ x ∈ O, x < W0.heap.size) (k : OwnStep W W' O O') : W'.ownsRow W0.heap.size e size u n xs :=
  own_keeps h k.1 fun g hg hm => by
    have h1 := (own_lt h g hg).1
    have h2 := hO g hm
    omega
/-- A stamp's cells where its row lies. -/
theorem stamp_at {w : World} {B : Nat} {ss : List St} {av : Option Addr} {cap k : Nat} {s : St} (hO : w.ownsRow B 44 2 (.slice av ss.length cap) ss.length (rowS ss)) (hs : ss[k]? = some s) :
    ∃ g, av = some ⟨g, 0, none⟩ ∧ g < w.heap.size ∧ w.cell? ⟨g, k * 2, none⟩ = some (.string s.1) ∧ w.cell? ⟨g, k * 2 + 1, none⟩ = some (.int .i64 s.2) := by
  have hk : k < ss.length := (List.getElem?_eq_some_iff.1 hs).1
  rcases own_shape hO with ⟨_, h9, _⟩ | ⟨g, cap, cs, hsv, _, hh, _⟩
  · omega
  · have hav : av = some ⟨g, 0, none⟩ := by injection hsv
    rw [hsv] at hO
    obtain ⟨q0, q1⟩ := rowS_at ss k s hs
    obtain ⟨hj0, hv0⟩ := List.getElem?_eq_some_iff.1 q0
    obtain ⟨hj1, hv1⟩ := List.getElem?_eq_some_iff.1 q1
    exact ⟨g, hav, hh.lt, by rw [own_cell hO _ hj0, hv0], by rw [own_cell hO _ hj1, hv1]⟩
set_option maxRecDepth 100000 in
set_option maxHeartbeats 16000000 in
theorem tableMonotone_any (own : Nat) (ho : own < M64) (la : List ActT) (v : Value) (w : World) (hl : ActsT w v la) (hlo : ∀ a ∈ la, ActOk a) :
    Calls Try.prog 3 #[.int .u64 (own : Int), v] w fun e w' => e = .returned (.bool true) ∧ Below w.heap.size w w' := by
  obtain ⟨av, cap, rfl, hlen⟩ := hl.shape
  have HA := fun W => Lib.hid (awake_any W)
  have HL := Lib.hid hl
  have HLO := Lib.hid hlo
  clear hl hlo
  go_enter Try.func3, Try.ntmps3
  go_wp2_with fail
  with_reducible refine ((HA _).out).mono ?_
  rintro e w1 ⟨rfl, hb1⟩
  have HB1 := Lib.hid hb1
  clear hb1
  have HF := Lib.hid (few_any la _ w1 (HL.out.below (Nat.le_refl _) HB1.out) HLO.out)
  go_wp2_with fail
  refine (HF.out).mono ?_
  rintro e w4 ⟨b, rfl, hb, hb2⟩
  have HB4 := Lib.hid (HB1.out.trans (hb2.mono HB1.out.size))
  have HCost := Lib.hid hb
  clear hb hb2 HF HB1
  cases b
  · go_wp2
    go_ret
    exact ⟨rfl, HB4.out⟩
  have hN1 : costA la ≤ 2000 := HCost.out (by trivial)
  go_wp2_with fail
  refine (tnew_any own w4).mono ?_
  rintro e w5 ⟨rfl, hw5⟩
  subst hw5
  have HBo := Lib.hid (both_new w4 own ho)
  have hb5 := ((Below.refl w4.heap.size w4).alloc (Nat.le_refl _) (.cells #[.int .u64 (own : Int), .slice none 0 0, .map none, .slice none 0 0, .map none] 66)).alloc (by simp) (.cells #[.int .u64 (own : Int), .slice none 0 0, .slice none 0 0] 33)
  have HBw := Lib.hid hb5
  clear hb5
  obtain ⟨n0, hn0⟩ : ∃ n, w4.heap.size = n := ⟨_, rfl⟩
  have HN0 := Lib.hid hn0
  have HL4 := Lib.hid (HL.out.below (Nat.le_refl _) HB4.out)
  have hwn : w.heap.size ≤ n0 := by rw [← hn0]; exact HB4.out.size
  simp only [hn0] at HBo HBw
  go_wp2
  clear hn0
  go_loopw [32] (fun i wr => ∃ (k : Nat) (fs : List Fd) (ss : List St) (O : List Nat), i = .int .i64 k ∧ k ≤ la.length ∧ Hid (Both wr n0 n0 (n0 + 1) own (costA (la.take k)) fs ss O) ∧ Hid (Below n0 w4 wr) ∧ Hid (InvS fs ss)) (fun i _ => la.length - (intOf i).toNat)
  case atStart => exact ⟨0, [], [], _, rfl, Nat.zero_le _, HBo, HBw, Lib.hid (by intro s hs; simp at hs)⟩
  case round =>
    obtain ⟨k, fs, ss, O, rfl, hk, HBk, HBl, HInv⟩ := hrel
    have HBw6 : Hid (Below w.heap.size w wr) := Lib.hid (HB4.out.trans (HBl.out.mono hwn))
    by_cases hlt : k < la.length
    · obtain ⟨a, hak⟩ : ∃ a, la[k]? = some a := ⟨_, List.getElem?_eq_getElem hlt⟩
      obtain ⟨b, o, sv, rfl, hbl, hsv, hcs⟩ := HL4.out.at (Nat.le_of_eq HN0.out) HBl.out hak
      obtain ⟨asl2, acp2, rfl, -⟩ := id hsv
      have HCk := Lib.hid (costA_take hak)
      have hle := costA_le la (k + 1)
      have HOk := Lib.hid (HLO.out a (List.mem_of_getElem? hak))
      have hbo := HBk.out.below ((Below.refl wr.heap.size wr).alloc (Nat.le_refl _) (.cells (a.cells (.slice asl2 a.st.length acp2)).toArray 37))
      have hbl6 := HBl.out.alloc (both_size HBk.out) (.cells (a.cells (.slice asl2 a.st.length acp2)).toArray 37)
      have HBo6 := Lib.hid hbo
      have HBl6 := Lib.hid hbl6
      have HX6 := Lib.hid (Has.new wr 37 (a.cells (.slice asl2 a.st.length acp2)))
      have HFi := Lib.hid (both_fields hbo)
      have HSv := Lib.hid hsv
      have HMono := Lib.hid (act_mono (lab := own) a HOk.out (both_nd HBk.out) HInv.out)
      have HAct := Lib.hid (fun (W : World) (hW : Both W n0 n0 (n0 + 1) own (costA (la.take k)) fs ss O) (hbW : Below n0 w4 W) => act_any W w4 n0 n0 (n0 + 1) own (costA (la.take k)) fs ss O hW a _ HOk.out (Nat.le_of_eq HN0.out) hbW HSv.out (by rw [← HCk.out]; omega))
      rw [← HCk.out] at HAct
      obtain ⟨r1, hr1⟩ : ∃ r, actF own fs ss a = r := ⟨_, rfl⟩
      rw [hr1] at HAct HMono
      obtain ⟨fs1, ss1⟩ := r1
      obtain ⟨d', c', ⟨kk', kn', ks', kl'⟩, ⟨xk', xn', xs', xl'⟩, nn', st'⟩ := a
      have p0 := hcs 0 _ rfl
      have p1 := hcs 1 _ rfl
      have p2 := hcs 2 _ rfl
      have p3 := hcs 3 _ rfl
      have p4 := hcs 4 _ rfl
      have p5 := hcs 5 _ rfl
      have p6 := hcs 6 _ rfl
      have p7 := hcs 7 _ rfl
      have p8 := hcs 8 _ rfl
      have p9 := hcs 9 _ rfl
      have p10 := hcs 10 _ rfl
      have p11 := hcs 11 _ rfl
      simp only [Nat.add_zero] at p0
      simp only [ActT.cells] at HAct HBo6 HBl6 HFi HX6
      clear hcs hak hbo hbl6 hr1 hsv
      go_wp2_with fail
      clear p0 p1 p2 p3 p4 p5 p6 p7 p8 p9 p10 p11
      generalize World.alloc wr _ = w6 at HBo6 HBl6 HFi HX6 ⊢
      refine (HFi.out).mono ?_
      rintro e w7 ⟨u9, rfl, ho9, hb7⟩
      have HO9 := Lib.hid ho9
      have HBo7 := Lib.hid (HBo6.out.below hb7)
      have HBl7 := Lib.hid (HBl6.out.trans (hb7.mono (both_size HBo6.out)))
      have HX7 := Lib.hid (HX6.out.below hb7 HX6.out.lt)
      have HOl := Lib.hid (fun x hx => (HBo6.out.parts x hx).2)
      obtain ⟨a9, c9, hu9⟩ := own_slice ho9
      subst hu9
      clear ho9 hb7
      have HSt := Lib.hid (both_stamps HBo7.out)
      go_wp2_with fail
      refine (HSt.out).mono ?_
      rintro e w8 ⟨u10, rfl, ho10, hb8⟩
      have HO10 := Lib.hid ho10
      have HO9' := Lib.hid (own_keeps HO9.out (Keeps.below' hb8 []) (by simp))
      have HBo8 := Lib.hid (HBo7.out.below hb8)
      have HBl8 := Lib.hid (HBl7.out.trans (hb8.mono (both_size HBo7.out)))
      have HX8 := Lib.hid (HX7.out.below hb8 HX7.out.lt)
      have HOl8 := Lib.hid (fun x hx => (HBo7.out.parts x hx).2)
      obtain ⟨a10, c10, hu10⟩ := own_slice ho10
      subst hu10
      clear ho10 hb8 HSt HO9 HX7 HX6
      have q0 := HX8.out.cell 0
      have q1 := HX8.out.cell 1
      have q2 := HX8.out.cell 2
      have q3 := HX8.out.cell 3
      have q4 := HX8.out.cell 4
      have q5 := HX8.out.cell 5
      have q6 := HX8.out.cell 6
      have q7 := HX8.out.cell 7
      have q8 := HX8.out.cell 8
      have q9 := HX8.out.cell 9
      have q10 := HX8.out.cell 10
      have q11 := HX8.out.cell 11
      have ql := HX8.out.lt
      simp only [List.getElem?_cons_zero, List.getElem?_cons_succ] at q0 q1 q2 q3 q4 q5 q6 q7 q8 q9 q10 q11
      go_wp2_with fail
      refine (HAct.out _ HBo8.out HBl8.out).mono ?_
      rintro e w9 ⟨rfl, O', hbo9, hos9⟩
      have HBo9 := Lib.hid hbo9
      have HBl9 : Hid (Below n0 w4 w9) := Lib.hid (HBl8.out.trans (hos9.toBelow HBo8.out))
      have HO9 := Lib.hid (own_step HO9'.out HOl.out hos9)
      have HO10' := Lib.hid (own_step HO10.out HOl8.out hos9)
      have hsz9 := hos9.1.size
      clear hbo9 hos9 HX8 q0 q1 q2 q3 q4 q5 q6 q7 q8 q9 q10 q11 ql HAct HO10 HO9' HFi
      have HFi := Lib.hid (both_fields HBo9.out)
      go_wp2_with fail
      refine (HFi.out).mono ?_
      rintro e w10 ⟨u11, rfl, ho11, hb10⟩
      have HO11 := Lib.hid ho11
      have HBo10 := Lib.hid (HBo9.out.below hb10)
      have HBl10 := Lib.hid (HBl9.out.trans (hb10.mono (both_size HBo9.out)))
      have HO9' := Lib.hid (own_keeps HO9.out (Keeps.below' hb10 []) (by simp))
      have HO10 := Lib.hid (own_keeps HO10'.out (Keeps.below' hb10 []) (by simp))
      obtain ⟨a11, c11, hu11⟩ := own_slice ho11
      subst hu11
      clear ho11 hb10 HFi
      have HSt := Lib.hid (both_stamps HBo10.out)
      go_wp2_with fail
      refine (HSt.out).mono ?_
      rintro e w11 ⟨u12, rfl, ho12, hb11⟩
      obtain ⟨a12, c12, hu12⟩ := own_slice ho12
      subst hu12
      have HM := Lib.hid (M4.mk (HBo10.out.below hb11) (HBl10.out.trans (hb11.mono (both_size HBo10.out))) (own_base (own_keeps HO9'.out (Keeps.below' hb11 []) (by simp)) (both_size HBo6.out)) (own_base (own_keeps HO10.out (Keeps.below' hb11 []) (by simp)) (both_size HBo7.out)) (own_base (own_keeps HO11.out (Keeps.below' hb11 []) (by simp)) (both_size HBo9.out)) (own_base ho12 (both_size HBo10.out)))
      clear ho12 hb11 HSt HO9 HO10 HO9' HO10' HO11 HBo6 HBo7 HBo8 HBo9 HBo10 HBl6 HBl7 HBl8 HBl9 HBl10 hsz9
      have hlen1 := (both_lens HM.out.both).1
      have hlen2 := (both_lens HM.out.both).2
      have hm1 := HMono.out.1.1
      have hm2 := HMono.out.2.1.1
      have hm1' : ¬ (fs1.length : Int) < (fs.length : Int) := by omega
      have hm2' : ¬ (ss1.length : Int) < (ss.length : Int) := by omega
      go_wp2
      clear hm1' hm2'
      go_loopw [62] (fun i wz => ∃ j : Nat, i = .int .i64 j ∧ j ≤ fs.length ∧ Hid (M4 n0 own (costA (la.take (k + 1))) fs fs1 ss ss1 O' (.slice a9 fs.length c9) (.slice a10 ss.length c10) (.slice a11 fs1.length c11) (.slice a12 ss1.length c12) w4 wz)) (fun i _ => fs.length - (intOf i).toNat)
      case atStart => exact ⟨0, rfl, Nat.zero_le _, HM⟩
      case round =>
        obtain ⟨j, rfl, hj, HM2⟩ := hrel
        by_cases hjl : j < fs.length
        · obtain ⟨⟨⟨x0, x1, x2, x3⟩, ⟨y0, y1, y2, y3⟩⟩, hf⟩ : ∃ f, fs[j]? = some f := ⟨_, List.getElem?_eq_getElem hjl⟩
          obtain ⟨⟨z, ⟨z4, z5, z6, z7⟩⟩, hg, hz⟩ := HMono.out.1.2 j _ hf
          simp only at hz
          subst hz
          obtain ⟨g9, rfl, l9, q0, q1, q2, q3, -⟩ := field_at HM2.out.r9 hf
          obtain ⟨g11, rfl, l11, t0, t1, t2, t3, -⟩ := field_at HM2.out.r11 hg
          have HJ : Hid (j < fs.length) := Lib.hid hjl
          have hi1 : (j : Int) < (fs.length : Int) := by omega
          have hi2 : (j : Int) < (fs1.length : Int) := by omega
          have hi0 : (0 : Int) ≤ (j : Int) := by omega
          have hne := fun W => neSelf W x0 x1 x2 (x3 : Int)
          have hee := fun W => eqSelfIn W x0 x1 x2 (x3 : Int)
          clear hf hg
          go_wp2
          go_quiet (fail)
          go_wp2
          go_roundw
          case rel => exact ⟨j + 1, by go_num, HJ.out, Lib.hid (HM2.out.next (both_size HM2.out.both) (below_drewN (Below.refl _ _) _))⟩
          case measure => have := HJ.out; simp [intOf]; omega
        · have : j = fs.length := by omega
          subst this
          go_wp2
          go_loopw [79] (fun i wz => ∃ j : Nat, i = .int .i64 j ∧ j ≤ ss.length ∧ Hid (M4 n0 own (costA (la.take (k + 1))) fs fs1 ss ss1 O' (.slice a9 fs.length c9) (.slice a10 ss.length c10) (.slice a11 fs1.length c11) (.slice a12 ss1.length c12) w4 wz)) (fun i _ => ss.length - (intOf i).toNat)
          case atStart => exact ⟨0, rfl, Nat.zero_le _, HM2⟩
          case round =>
            obtain ⟨j, rfl, hj, HM3⟩ := hrel
            by_cases hjl : j < ss.length
            · obtain ⟨⟨s1, s2⟩, hs⟩ : ∃ s, ss[j]? = some s := ⟨_, List.getElem?_eq_getElem hjl⟩
              obtain ⟨⟨t1, t2⟩, ht, e1, e2⟩ := HMono.out.2.1.2 j _ hs
              simp only at e1 e2
              subst e1
              have hnot := andNot_sub e2
              obtain ⟨g10, rfl, l10, q0, q1⟩ := stamp_at HM3.out.r10 hs
              obtain ⟨g12, rfl, l12, r0, r1⟩ := stamp_at HM3.out.r12 ht
              simp only at q0 q1 r0 r1
              have HJ : Hid (j < ss.length) := Lib.hid hjl
              have hi1 : (j : Int) < (ss.length : Int) := by omega
              have hi2 : (j : Int) < (ss1.length : Int) := by omega
              have hi0 : (0 : Int) ≤ (j : Int) := by omega
              clear hs ht e2
              go_wp2
              go_quiet (fail)
              go_wp2
              go_roundw
              case rel => exact ⟨j + 1, by go_num, HJ.out, Lib.hid (HM3.out.next (both_size HM3.out.both) (below_drewN (Below.refl _ _) _))⟩
              case measure => have := HJ.out; simp [intOf]; omega
            · have : j = ss.length := by omega
              subst this
              go_wp2
              go_loopw [110] (fun i wz => ∃ j : Nat, i = .int .i64 j ∧ j ≤ ss1.length ∧ Hid (M4 n0 own (costA (la.take (k + 1))) fs fs1 ss ss1 O' (.slice a9 fs.length c9) (.slice a10 ss.length c10) (.slice a11 fs1.length c11) (.slice a12 ss1.length c12) w4 wz)) (fun i _ => ss1.length - (intOf i).toNat)
              case atStart => exact ⟨0, rfl, Nat.zero_le _, HM3⟩
              case round =>
                obtain ⟨j, rfl, hj, HM4⟩ := hrel
                by_cases hjl : j < ss1.length
                · obtain ⟨⟨s1, s2⟩, hs⟩ : ∃ s, ss1[j]? = some s := ⟨_, List.getElem?_eq_getElem hjl⟩
                  obtain ⟨g12, rfl, l12, r0, r1⟩ := stamp_at HM4.out.r12 hs
                  have hsok := both_sts HM4.out.both _ (List.mem_of_getElem? hs)
                  obtain ⟨n, hn1, hn2, hn3⟩ := inv_val HMono.out.2.2 (List.mem_of_getElem? hs)
                  simp only at r0 r1 hsok hn1 hn3
                  have HJ : Hid (j < ss1.length) := Lib.hid hjl
                  have hi1 : (j : Int) < (ss1.length : Int) := by omega
                  have hi0 : (0 : Int) ≤ (j : Int) := by omega
                  have HM5 := Lib.hid (HM4.out.next (both_size HM4.out.both) ((Below.refl _ _).alloc (Nat.le_refl _) (.cells #[.string s1, .int .i64 s2] 44)))
                  have HG := Lib.hid (both_get HM5.out.both (strKey s1) (strKey_ok s1 hsok.1))
                  obtain ⟨V0, hV0⟩ : ∃ x, valOf fs1 (strKey s1) = x := ⟨_, rfl⟩
                  rw [hV0] at HG hn1
                  clear hV0 hs hsok
                  obtain ⟨gk, gn, gs, gl⟩ := V0
                  simp only at hn1
                  subst hn1
                  obtain ⟨L, hL⟩ : ∃ L, gl ||| ((strKey s1).l ||| own) = L := ⟨_, rfl⟩
                  simp only [V.with, hL] at HG
                  clear hL
                  have hn0' : (0 : Int) ≤ (n : Int) := by omega
                  have hn62 : (n : Int) ≤ 62 := by omega
                  go_wp2_with fail
                  refine (HG.out).mono ?_
                  rintro e W9 ⟨rfl, hb9⟩
                  simp only [V.agg]
                  have HX9 := Lib.hid (((Has.new _ 44 [.string s1, .int .i64 s2]).below hb9 (by simp)).keeps (Keeps.alloc [] W9 (.cells #[.int .i64 n, .int .i64 gn, .string gs, .int .u64 (L : Int)] 35)) (by simp))
                  have HV9 := Lib.hid (Has.new W9 35 [.int .i64 n, .int .i64 gn, .string gs, .int .u64 (L : Int)])
                  have HM6 := Lib.hid (HM5.out.next (both_size HM5.out.both) hb9)
                  have HM7 := Lib.hid (HM6.out.next (both_size HM6.out.both) ((Below.refl _ _).alloc (Nat.le_refl _) (.cells #[.int .i64 n, .int .i64 gn, .string gs, .int .u64 (L : Int)] 35)))
                  have z1 := HX9.out.cell 1
                  have zl := HX9.out.lt
                  have y0 := HV9.out.cell 0
                  have yl := HV9.out.lt
                  simp only [List.getElem?_cons_zero, List.getElem?_cons_succ] at z1 y0
                  clear hb9 r0 r1
                  go_wp2
                  go_roundw
                  case rel => exact ⟨j + 1, by go_num, HJ.out, HM7⟩
                  case measure => have := HJ.out; simp [intOf]; omega
                · have : j = ss1.length := by omega
                  subst this
                  go_wp2
                  go_roundw
                  case rel => exact ⟨k + 1, fs1, ss1, O', by go_num, by omega, Lib.hid HM4.out.both, Lib.hid HM4.out.below, Lib.hid HMono.out.2.2⟩
                  case measure => simp [intOf]; omega
    · go_wp2
      go_ret
      exact ⟨rfl, HBw6.out⟩
section
variable {H : Type} {enc : TypeId × Value → H}
theorem tableMonotone_u {r : Reach} {b0 : Nat} {d : DataW H} {ps : List MemPlace} {sp : Nat → Bool} (l : Int) (hl : 0 ≤ l ∧ l ≤ 18446744073709551615) (v1 : Value) (w : World) (g1 : Value.okWide Try.prog w r b0 24 v1) (h1 : DataW.Trod enc Try.prog w 0 sp true 24 v1 d ps)
    (hw1 : ∀ n ∈ d.weights Try.prog 24, n ≤ reachBytes) :
    Calls Try.prog 3 #[.int .u64 l, v1] w fun e w' => e = .returned (.bool true) ∧ Below w.heap.size w w' := by
  obtain ⟨n, rfl⟩ : ∃ n : Nat, l = n := ⟨l.toNat, by omega⟩
  obtain ⟨la, hv, hla⟩ := open_acts g1 h1 hw1
  exact tableMonotone_any n (by unfold M64; omega) la v1 w hv hla
end
end TabD
end Go.Proofs.Ytpmbbkhhnkhcbaa
