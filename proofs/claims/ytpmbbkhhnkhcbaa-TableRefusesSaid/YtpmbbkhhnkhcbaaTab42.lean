/- TableRefuses. -/
import Derived.Test.YtpmbbkhhnkhcbaaTab41
namespace Go.Proofs.Ytpmbbkhhnkhcbaa
open Go.RowKit Go.WideShapes Go.ChangeShapes ObjM Go.Maps
namespace TabD
open LabelM LabelD ValD

theorem sts_row {w0 w : World} {B : Nat} {asl : Option Addr} {acp : Nat} {st : List St} (h : StsAt w0 (.slice asl st.length acp) st) (hw0 : w0.heap.size ≤ B) (hb : Below B w0 w) :
    st = [] ∨ ∃ g o, asl = some ⟨g, o, none⟩ ∧ g < B ∧ ∀ i s, st[i]? = some s → w.cell? ⟨g, o + i * 2, none⟩ = some (.string s.1) ∧ w.cell? ⟨g, o + i * 2 + 1, none⟩ = some (.int .i64 s.2) := by
  obtain ⟨av, cap, e, h1⟩ := h
  injection e with e1 e2 e3
  subst e1
  rcases h1 with h1 | ⟨g, o, q1, q2, q3⟩
  · exact .inl h1
  · have hg : g < B := by omega
    exact .inr ⟨g, o, q1, hg, fun i s hs => ⟨(hb.cell (p := ⟨g, _, none⟩) hg).trans (q3 i s hs).1, (hb.cell (p := ⟨g, _, none⟩) hg).trans (q3 i s hs).2⟩⟩
/-- A Put that adds nothing. -/
theorem both_put_no {w w1 : World} {B T R lab N : Nat} {fs : List Fd} {ss : List St} {er : Int} {e1 : Ending} {fv : Value} {pm : Option Nat} {sv : Value} {nm : Option Nat} {gv rv : Value}
    (h1 : IsTS w B T lab fs fv pm sv nm N ss) (h2 : IsRS w B R lab fs gv rv ss) (h3 : ∀ x, fv.ownBlock = some x → gv.ownBlock ≠ some x) (h4 : B ≤ R) (h5 : ND ss) (hl : fs.length ≤ N) (hN : N ≤ 100000) (hB : B ≤ w.heap.size)
    (hp : PutTS w B T lab fv pm sv nm N ss (er, fs) e1 w1) : ∃ O', Both w1 B T R lab N fs ss O' := by
  have hr := (both_put (w2 := w1) (e2 := e1) h1 h2 h3 h4 h5 hl hN rfl hB hp).1
  obtain ⟨-, fv1, pm1, p1, p2, p3⟩ := hp
  refine ⟨_, fv1, pm1, sv, nm, gv, rv, p1, hr.1, fun x hx hg => ?_, h4, h5, hl, hN, rfl, hr.2⟩
  obtain ⟨cs, hc⟩ := own_row h2.1.2.1 x hg
  rcases p3 x (by simp [tblk, hx]) with h9 | h9
  · rcases List.mem_cons.1 h9 with h8 | hm
    · subst h8
      exact hc.ne h1.1.1 (by decide) rfl
    · rcases List.mem_append.1 hm with hm | hm
      · exact h3 x (by simpa using hm) hg
      · have e : pm = some x := by simpa using hm
        have hp := h1.1.2.2.1
        rw [e] at hp
        exact hp.ne hc rfl
  · have := hc.lt
    omega
set_option maxRecDepth 100000 in
set_option maxHeartbeats 8000000 in
theorem tableRefuses_any (own : Nat) (ho : own < M64) (la : List ActT) (v : Value) (d kk kn xk xn nn : Int) (c kl xl : Nat) (ks xs : ByteArray) (st : List St) (asl : Option Addr) (acp : Nat) (w : World) (hl : ActsT w v la) (hlo : ∀ a ∈ la, ActOk a) (hao : ActOk ⟨d, c, ⟨kk, kn, ks, kl⟩, ⟨xk, xn, xs, xl⟩, nn, st⟩) (hst : StsAt w (.slice asl st.length acp) st) :
    Calls Try.prog 6 #[.int .u64 (own : Int), v, .agg #[.int .i64 d, .int .u64 (c : Int), .int .i64 kk, .int .i64 kn, .string ks, .int .u64 (kl : Int), .int .i64 xk, .int .i64 xn, .string xs, .int .u64 (xl : Int), .int .i64 nn, .slice asl st.length acp]] w fun e w' => e = .returned (.bool true) ∧ Below w.heap.size w w' := by
  obtain ⟨av, cap, rfl, hlen⟩ := hl.shape
  have HA := fun W => Lib.hid (awake_any W)
  have HL := Lib.hid hl
  have HLO := Lib.hid hlo
  have HAO := Lib.hid hao
  have HST := Lib.hid hst
  have HX0 := Lib.hid (Has.new w 37 [.int .i64 d, .int .u64 (c : Int), .int .i64 kk, .int .i64 kn, .string ks, .int .u64 (kl : Int), .int .i64 xk, .int .i64 xn, .string xs, .int .u64 (xl : Int), .int .i64 nn, .slice asl st.length acp])
  have HB0 := Lib.hid ((Below.refl w.heap.size w).alloc (Nat.le_refl _) (.cells #[.int .i64 d, .int .u64 (c : Int), .int .i64 kk, .int .i64 kn, .string ks, .int .u64 (kl : Int), .int .i64 xk, .int .i64 xn, .string xs, .int .u64 (xl : Int), .int .i64 nn, .slice asl st.length acp] 37))
  clear hl hlo hao hst
  go_enter Try.func6, Try.ntmps6
  go_wp2_with fail
  with_reducible refine ((HA _).out).mono ?_
  rintro e w1 ⟨rfl, hb1⟩
  have HB1 := Lib.hid (HB0.out.trans (hb1.mono (by simp)))
  have HX1 := Lib.hid (HX0.out.below hb1 HX0.out.lt)
  clear hb1 HX0 HB0
  have HF := Lib.hid (few_any la _ w1 (HL.out.below (Nat.le_refl _) HB1.out) HLO.out)
  go_wp2_with fail
  refine (HF.out).mono ?_
  rintro e w2 ⟨b, rfl, hb, hb2⟩
  have HB2 := Lib.hid (HB1.out.trans (hb2.mono HB1.out.size))
  have HX2 := Lib.hid (HX1.out.below hb2 HX1.out.lt)
  have HCost := Lib.hid hb
  clear hb hb2 HF HX1 HB1
  cases b
  · go_wp2
    go_ret
    exact ⟨rfl, HB2.out⟩
  have q0 := HX2.out.cell 0
  have q1 := HX2.out.cell 1
  have q2 := HX2.out.cell 2
  have q3 := HX2.out.cell 3
  have q4 := HX2.out.cell 4
  have q5 := HX2.out.cell 5
  have q6 := HX2.out.cell 6
  have q7 := HX2.out.cell 7
  have q8 := HX2.out.cell 8
  have q9 := HX2.out.cell 9
  have q10 := HX2.out.cell 10
  have q11 := HX2.out.cell 11
  have ql := HX2.out.lt
  simp only [List.getElem?_cons_zero, List.getElem?_cons_succ] at q0 q1 q2 q3 q4 q5 q6 q7 q8 q9 q10 q11
  have HX3 := Lib.hid (Has.new w2 37 [.int .i64 d, .int .u64 (c : Int), .int .i64 kk, .int .i64 kn, .string ks, .int .u64 (kl : Int), .int .i64 xk, .int .i64 xn, .string xs, .int .u64 (xl : Int), .int .i64 nn, .slice asl st.length acp])
  have HB3 := Lib.hid (HB2.out.alloc HB2.out.size (.cells #[.int .i64 d, .int .u64 (c : Int), .int .i64 kk, .int .i64 kn, .string ks, .int .u64 (kl : Int), .int .i64 xk, .int .i64 xn, .string xs, .int .u64 (xl : Int), .int .i64 nn, .slice asl st.length acp] 37))
  have HF := Lib.hid (few_any [⟨d, c, ⟨kk, kn, ks, kl⟩, ⟨xk, xn, xs, xl⟩, nn, st⟩] _ _ (acts_one HX3.out HST.out (Nat.le_refl _) HB3.out) (by intro a ha; have h9 : a = ⟨d, c, ⟨kk, kn, ks, kl⟩, ⟨xk, xn, xs, xl⟩, nn, st⟩ := (by simpa using ha); rw [h9]; exact HAO.out))
  go_wp2_with fail
  refine (HF.out).mono ?_
  rintro e w4 ⟨b, rfl, hb, hb4⟩
  have HB4 := Lib.hid (HB3.out.trans (hb4.mono HB3.out.size))
  have HX4 := Lib.hid ((HX2.out.keeps (Keeps.alloc [] w2 (.cells #[.int .i64 d, .int .u64 (c : Int), .int .i64 kk, .int .i64 kn, .string ks, .int .u64 (kl : Int), .int .i64 xk, .int .i64 xn, .string xs, .int .u64 (xl : Int), .int .i64 nn, .slice asl st.length acp] 37)) (by simp)).keeps (Keeps.below' hb4 []) (by simp))
  have HCost2 := Lib.hid hb
  clear hb hb4 HF HX3 HB3 HX2 HB2 q0 q1 q2 q3 q4 q5 q6 q7 q8 q9 q10 q11 ql
  cases b
  · go_wp2
    go_ret
    exact ⟨rfl, HB4.out⟩
  have hN2 : 10 + st.length ≤ 2000 := by have := HCost2.out (by trivial); simpa [costA] using this
  have hN1 : costA la ≤ 2000 := HCost.out (by trivial)
  go_wp2_with fail
  refine (tnew_any own w4).mono ?_
  rintro e w5 ⟨rfl, hw5⟩
  subst hw5
  have HBo := Lib.hid (both_new w4 own ho)
  have hB5 := (HB4.out.alloc HB4.out.size (.cells #[.int .u64 (own : Int), .slice none 0 0, .map none, .slice none 0 0, .map none] 66)).alloc (by have := HB4.out.size; simp; omega) (.cells #[.int .u64 (own : Int), .slice none 0 0, .slice none 0 0] 33)
  have HB5 := Lib.hid hB5
  have hb5 := ((Below.refl w4.heap.size w4).alloc (Nat.le_refl _) (.cells #[.int .u64 (own : Int), .slice none 0 0, .map none, .slice none 0 0, .map none] 66)).alloc (by simp) (.cells #[.int .u64 (own : Int), .slice none 0 0, .slice none 0 0] 33)
  have HBw := Lib.hid hb5
  clear hB5 hb5
  obtain ⟨n0, hn0⟩ : ∃ n, w4.heap.size = n := ⟨_, rfl⟩
  have HN0 := Lib.hid hn0
  have HL4 := Lib.hid (HL.out.below (Nat.le_refl _) HB4.out)
  have HS4 := Lib.hid (HST.out.below (Nat.le_refl _) HB4.out)
  have hwn : w.heap.size ≤ n0 := by rw [← hn0]; exact HB4.out.size
  have hxn : w.heap.size < n0 := by rw [← hn0]; exact HX4.out.lt
  simp only [hn0] at HBo HBw
  go_wp2
  clear hn0
  go_loopw [32] (fun i wr => ∃ (k : Nat) (fs : List Fd) (ss : List St) (O : List Nat), i = .int .i64 k ∧ k ≤ la.length ∧ Hid (Both wr n0 n0 (n0 + 1) own (costA (la.take k)) fs ss O) ∧ Hid (Below n0 w4 wr)) (fun i _ => la.length - (intOf i).toNat)
  case atStart => exact ⟨0, [], [], _, rfl, Nat.zero_le _, HBo, HBw⟩
  case round =>
    obtain ⟨k, fs, ss, O, rfl, hk, HBk, HBl⟩ := hrel
    have HBw6 : Hid (Below w.heap.size w wr) := Lib.hid (HB4.out.trans (HBl.out.mono hwn))
    by_cases hlt : k < la.length
    · obtain ⟨a, hak⟩ : ∃ a, la[k]? = some a := ⟨_, List.getElem?_eq_getElem hlt⟩
      obtain ⟨b, o, sv, rfl, hbl, hsv, hcs⟩ := HL4.out.at (Nat.le_of_eq HN0.out) HBl.out hak
      obtain ⟨asl2, acp2, rfl, -⟩ := id hsv
      have HCk := Lib.hid (costA_take hak)
      have hle := costA_le la (k + 1)
      have HOk := Lib.hid (HLO.out a (List.mem_of_getElem? hak))
      have hbo := HBk.out.below ((Below.refl wr.heap.size wr).alloc (Nat.le_refl _) (.cells (a.cells (.slice asl2 a.st.length acp2)).toArray 37))
      have hbl6 := HBl.out.alloc (Nat.le_trans (by rw [← HN0.out]; exact Nat.le_refl _) HBl.out.size) (.cells (a.cells (.slice asl2 a.st.length acp2)).toArray 37)
      have HAct := Lib.hid (act_any _ w4 n0 n0 (n0 + 1) own (costA (la.take k)) fs ss O hbo a _ HOk.out (Nat.le_of_eq HN0.out) hbl6 hsv (by rw [← HCk.out]; omega))
      rw [← HCk.out] at HAct
      have HBo6 := Lib.hid hbo
      have HBl6 := Lib.hid hbl6
      have hnew := Has.new wr 37 (a.cells (.slice asl2 a.st.length acp2))
      obtain ⟨r1, hr1⟩ : ∃ r, actF own fs ss a = r := ⟨_, rfl⟩
      rw [hr1] at HAct
      obtain ⟨fs1, ss1⟩ := r1
      obtain ⟨d', c', ⟨kk', kn', ks', kl'⟩, ⟨xk', xn', xs', xl'⟩, nn', st'⟩ := a
      have p0 := hcs 0 _ rfl
      have p1 := hcs 1 _ rfl
      have p2 := hcs 2 _ rfl
      have p3 := hcs 3 _ rfl
      have p4 := hcs 4 _ rfl
      have p5 := hcs 5 _ rfl
      have p6 := hcs 6 _ rfl
      have p7 := hcs 7 _ rfl
      have p8 := hcs 8 _ rfl
      have p9 := hcs 9 _ rfl
      have p10 := hcs 10 _ rfl
      have p11 := hcs 11 _ rfl
      simp only [Nat.add_zero] at p0
      have r0 := hnew.cell 0
      have r1 := hnew.cell 1
      have r2 := hnew.cell 2
      have r3 := hnew.cell 3
      have r4 := hnew.cell 4
      have r5 := hnew.cell 5
      have r6 := hnew.cell 6
      have r7 := hnew.cell 7
      have r8 := hnew.cell 8
      have r9 := hnew.cell 9
      have r10 := hnew.cell 10
      have r11 := hnew.cell 11
      have rl := hnew.lt
      simp only [ActT.cells, List.getElem?_cons_zero, List.getElem?_cons_succ] at r0 r1 r2 r3 r4 r5 r6 r7 r8 r9 r10 r11 rl HAct HBl6
      clear hcs hnew hak hbo hbl6 hr1 hsv
      go_wp2_with fail
      refine (HAct.out).mono ?_
      rintro e w7 ⟨rfl, O', hbo7, hos7⟩
      have HBo7 := Lib.hid hbo7
      have HBl7 : Hid (Below n0 w4 w7) := Lib.hid (HBl6.out.trans (hos7.toBelow HBo6.out))
      clear hbo7 hos7 p0 p1 p2 p3 p4 p5 p6 p7 p8 p9 p10 p11 r0 r1 r2 r3 r4 r5 r6 r7 r8 r9 r10 r11 rl
      go_wp2
      go_roundw
      case rel => exact ⟨k + 1, fs1, ss1, O', by go_num, by omega, HBo7, HBl7⟩
      case measure => simp [intOf]; omega
    · have : k = la.length := by omega
      subst this
      have HX6 := Lib.hid (HX4.out.below HBl.out hxn)
      have hbk := HBk.out
      rw [List.take_length] at hbk
      have HBk := Lib.hid hbk
      clear hbk
      have HTw := Lib.hid (twin_any HBk.out)
      go_wp2_with fail
      refine (HTw.out).mono ?_
      rintro e w7 ⟨Q, O7, rfl, hbo7, hb7⟩
      have HBo7 := Lib.hid hbo7
      have hbl7 := HBl.out.trans (hb7.mono (both_size HBk.out))
      have HBl7 := Lib.hid hbl7
      have HX7 := Lib.hid (HX6.out.below hb7 HX6.out.lt)
      have HBw7 := Lib.hid (HBw6.out.trans (hb7.mono HBw6.out.size))
      have hrow7 := sts_row HS4.out (Nat.le_of_eq HN0.out) hbl7
      clear hbo7 hbl7 hb7 HTw HBk HX6
      obtain ⟨fv, pm, sv, nm, gv, rv, h1, h2, h3, h4, h5, h6, h7, h8, h9⟩ := HBo7.out
      have HSt := Lib.hid (stamp_any n0 n0 own (costA la) fs fv pm sv nm ss st asl acp _ h1 h9 (by omega) HAO.out.2.2.2.2.1 hrow7)
      have HNext : Hid (∀ (W : World) (nm' : Option Nat), IsTS W n0 n0 own fs fv pm sv nm' (costA la + st.length) ss → Keeps (n0 :: nm.toList) w7 W → ∃ O', Both W n0 n0 Q own (costA la + st.length) fs ss O') := Lib.hid (fun W nm' ht hk => ⟨_, fv, pm, sv, nm', gv, rv, ht, rs_keepsT h1 h2 hk, h3, h4, h5, by omega, by omega, rfl, Nat.le_trans h9 hk.size⟩)
      have HKn : Hid (∀ x ∈ n0 :: nm.toList, n0 ≤ x) := Lib.hid (fun x hx => (HBo7.out.parts x (by
        rw [h8]
        rcases List.mem_cons.1 hx with rfl | hx
        · simp [tblk]
        · exact List.mem_append_right _ (List.mem_append_left _ hx))).1)
      have HN9 := Lib.hid h9
      clear h1 h2 h3 h4 h5 h6 h7 h8 h9 hrow7
      have q11 := HX7.out.cell 11
      have ql := HX7.out.lt
      simp only [List.getElem?_cons_zero, List.getElem?_cons_succ] at q11
      go_wp2_with fail
      refine (HSt.out).mono ?_
      rintro e w8 hst8
      clear q11 ql
      unfold StampIs at hst8
      cases hrun : stampsRun fs ss st with
      | some ss' =>
        rw [hrun] at hst8
        obtain ⟨rfl, sv', nm', -, hk8, -⟩ := hst8
        have HE := Lib.hid (HBw7.out.trans ((hk8.toBelow n0 HN9.out HKn.out).mono hwn))
        clear hk8
        go_wp2
        go_ret
        exact ⟨rfl, HE.out⟩
      | none =>
        rw [hrun] at hst8
        obtain ⟨rfl, nm', ht8, hk8, -⟩ := hst8
        obtain ⟨O8, hbo8⟩ := HNext.out w8 nm' ht8 hk8
        have HBo8 := Lib.hid hbo8
        have HBw8 := Lib.hid (HBw7.out.trans ((hk8.toBelow n0 HN9.out HKn.out).mono hwn))
        have HX8 := Lib.hid (HX7.out.keeps hk8 (fun hm => by have := HKn.out _ hm; omega))
        have HAl := Lib.hid (alike_any hbo8)
        clear ht8 hk8 hbo8 hrun
        go_wp2_with fail
        refine (HAl.out).mono ?_
        rintro e w9 ⟨rfl, hb9⟩
        have HBo9 := Lib.hid (HBo8.out.below hb9)
        have HBw9 := Lib.hid (HBw8.out.trans (hb9.mono HBw8.out.size))
        have HX9 := Lib.hid (HX8.out.below hb9 HX8.out.lt)
        clear hb9 HAl HX8 HBo8 HBo7 HX7
        obtain ⟨fv, pm, sv, nm, gv, rv, h1, h2, h3, h4, h5, h6, h7, h8, h9⟩ := HBo9.out
        have HT := Lib.hid (tput_any n0 n0 own (costA la + st.length) fs fv pm sv nm ss c HAO.out.1 ⟨kk, kn, ks, kl⟩ ⟨xk, xn, xs, xl⟩ HAO.out.2.1 HAO.out.2.2.1 _ h9 h1 (by omega))
        have HPE := Lib.hid (put_er (lab := own) (fs := fs) (ss := ss) (c := c) (key := ⟨kk, kn, ks, kl⟩) (v := ⟨xk, xn, xs, xl⟩))
        obtain ⟨⟨er, fs1⟩, hpf⟩ : ∃ r, putF own fs ss c ⟨kk, kn, ks, kl⟩ ⟨xk, xn, xs, xl⟩ = r := ⟨_, rfl⟩
        rw [hpf] at HT HPE
        have HNo : Hid (∀ (W : World) (e : Ending), fs1 = fs → PutTS w9 n0 n0 own fv pm sv nm (costA la + st.length) ss (er, fs1) e W → ∃ O', Both W n0 n0 Q own (costA la + st.length) fs ss O') := Lib.hid (fun W e he hp => by
          subst he
          exact both_put_no h1 h2 h3 h4 h5 h6 h7 h9 hp)
        have HKp : Hid (∀ (W : World) (e : Ending), PutTS w9 n0 n0 own fv pm sv nm (costA la + st.length) ss (er, fs1) e W → Below w.heap.size w W) := Lib.hid (fun W e hp => by
          obtain ⟨_, _, _, _, hk, _⟩ := hp
          refine HBw9.out.trans ((hk.toBelow n0 h9 fun x hx => (HBo9.out.parts x (by rw [h8]; exact List.mem_append_left _ hx)).1).mono hwn))
        simp only [V.agg] at HT
        clear h1 h2 h3 h4 h5 h6 h7 h8 h9 hpf
        have q1 := HX9.out.cell 1
        have q2 := HX9.out.cell 2
        have q3 := HX9.out.cell 3
        have q4 := HX9.out.cell 4
        have q5 := HX9.out.cell 5
        have q6 := HX9.out.cell 6
        have q7 := HX9.out.cell 7
        have q8 := HX9.out.cell 8
        have q9 := HX9.out.cell 9
        have ql := HX9.out.lt
        simp only [List.getElem?_cons_zero, List.getElem?_cons_succ] at q1 q2 q3 q4 q5 q6 q7 q8 q9
        rcases HPE.out with her | ⟨her, hfe⟩
        · have her : er = 0 := her
          subst her
          go_wp2_with fail
          refine (HT.out).mono ?_
          rintro e w10 hp
          have HE := Lib.hid (HKp.out _ _ hp)
          obtain ⟨rfl, -⟩ := hp
          go_wp2
          go_ret
          exact ⟨rfl, HE.out⟩
        · have hern : ¬ er = 0 := her
          have herb : (er == 0) = false := by simpa using hern
          go_wp2_with fail
          refine (HT.out).mono ?_
          rintro e w10 hp
          have HE := Lib.hid (HKp.out _ _ hp)
          obtain ⟨O10, hbo10⟩ := HNo.out _ _ hfe hp
          obtain ⟨rfl, -⟩ := hp
          have HAl := Lib.hid (alike_any hbo10)
          clear hbo10 hfe her
          go_wp2_with fail
          refine (HAl.out).mono ?_
          rintro e w11 ⟨rfl, hb11⟩
          have HE2 := Lib.hid (HE.out.trans (hb11.mono HE.out.size))
          clear hb11
          go_wp2
          go_ret
          exact ⟨rfl, HE2.out⟩
section
variable {H : Type} {enc : TypeId × Value → H}
theorem tableRefuses_u {r : Reach} {b0 : Nat} {d d' : DataW H} {ps ps' : List MemPlace} {sp : Nat → Bool} (l : Int) (hl : 0 ≤ l ∧ l ≤ 18446744073709551615) (v1 v2 : Value) (w : World) (g1 : Value.okWide Try.prog w r b0 24 v1) (h1 : DataW.Trod enc Try.prog w 0 sp true 24 v1 d ps)
    (hw1 : ∀ n ∈ d.weights Try.prog 24, n ≤ reachBytes) (g2 : Value.okWide Try.prog w r b0 37 v2) (h2 : DataW.Trod enc Try.prog w 0 sp true 37 v2 d' ps') (hw2 : ∀ n ∈ d'.weights Try.prog 37, n ≤ reachBytes) :
    Calls Try.prog 6 #[.int .u64 l, v1, v2] w fun e w' => e = .returned (.bool true) ∧ Below w.heap.size w w' := by
  obtain ⟨n, rfl⟩ : ∃ n : Nat, l = n := ⟨l.toNat, by omega⟩
  obtain ⟨la, hv, hla⟩ := open_acts g1 h1 hw1
  obtain ⟨⟨dd, c, ⟨kk, kn, ks, kl⟩, ⟨xk, xn, xs, xl⟩, nn, st⟩, sv, rfl, hst, hok⟩ := open_actv g2 h2 hw2
  obtain ⟨asl, acp, rfl, hr⟩ := hst
  exact tableRefuses_any n (by unfold M64; omega) la v1 dd kk kn xk xn nn c kl xl ks xs st asl acp w hv hla hok ⟨asl, acp, rfl, hr⟩
end
end TabD
end Go.Proofs.Ytpmbbkhhnkhcbaa
