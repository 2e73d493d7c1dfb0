/- TableLabels. -/
import Derived.Test.YtpmbbkhhnkhcbaaTab36
namespace Go.Proofs.Ytpmbbkhhnkhcbaa
open Go.RowKit Go.WideShapes Go.ChangeShapes ObjM Go.Maps
namespace TabD
open LabelM LabelD ValD

theorem valOf_ok {fs : List Fd} {key : V} (h : ∀ f ∈ fs, VOk f.1 ∧ VOk f.2) : (valOf fs key).l < M64 := by
  have h0 : (0 : Nat) < M64 := by decide
  unfold valOf
  split
  · split
    · split
      · rename_i f hf
        exact (h f (List.mem_of_getElem? hf)).2.2.2.2
      · exact h0
    · exact h0
  · exact h0
set_option maxRecDepth 100000 in
set_option maxHeartbeats 8000000 in
theorem tableLabels_any (own : Nat) (ho : own < M64) (la : List ActT) (v : Value) (d kk kn xk xn nn : Int) (c kl xl : Nat) (ks xs : ByteArray) (st : List St) (asl : Option Addr) (acp : Nat) (w : World) (hl : ActsT w v la) (hlo : ∀ a ∈ la, ActOk a) (hao : ActOk ⟨d, c, ⟨kk, kn, ks, kl⟩, ⟨xk, xn, xs, xl⟩, nn, st⟩) (hst : StsAt w (.slice asl st.length acp) st) :
    Calls Try.prog 4 #[.int .u64 (own : Int), v, .agg #[.int .i64 d, .int .u64 (c : Int), .int .i64 kk, .int .i64 kn, .string ks, .int .u64 (kl : Int), .int .i64 xk, .int .i64 xn, .string xs, .int .u64 (xl : Int), .int .i64 nn, .slice asl st.length acp]] w fun e w' => e = .returned (.bool true) ∧ Below w.heap.size w w' := by
  obtain ⟨av, cap, rfl, hlen⟩ := hl.shape
  have HA := fun W => Lib.hid (awake_any W)
  have HL := Lib.hid hl
  have HLO := Lib.hid hlo
  have HAO := Lib.hid hao
  have HST := Lib.hid hst
  have HX0 := Lib.hid (Has.new w 37 [.int .i64 d, .int .u64 (c : Int), .int .i64 kk, .int .i64 kn, .string ks, .int .u64 (kl : Int), .int .i64 xk, .int .i64 xn, .string xs, .int .u64 (xl : Int), .int .i64 nn, .slice asl st.length acp])
  have HB0 := Lib.hid ((Below.refl w.heap.size w).alloc (Nat.le_refl _) (.cells #[.int .i64 d, .int .u64 (c : Int), .int .i64 kk, .int .i64 kn, .string ks, .int .u64 (kl : Int), .int .i64 xk, .int .i64 xn, .string xs, .int .u64 (xl : Int), .int .i64 nn, .slice asl st.length acp] 37))
  clear hl hlo hao hst
  go_enter Try.func4, Try.ntmps4
  go_wp2_with fail
  with_reducible refine ((HA _).out).mono ?_
  rintro e w1 ⟨rfl, hb1⟩
  have HB1 := Lib.hid (HB0.out.trans (hb1.mono (by simp)))
  have HX1 := Lib.hid (HX0.out.below hb1 HX0.out.lt)
  clear hb1 HX0 HB0
  have HF := Lib.hid (few_any la _ w1 (HL.out.below (Nat.le_refl _) HB1.out) HLO.out)
  go_wp2_with fail
  refine (HF.out).mono ?_
  rintro e w2 ⟨b, rfl, hb, hb2⟩
  have HB2 := Lib.hid (HB1.out.trans (hb2.mono HB1.out.size))
  have HX2 := Lib.hid (HX1.out.below hb2 HX1.out.lt)
  have HCost := Lib.hid hb
  clear hb hb2 HF HX1 HB1
  cases b
  · go_wp2
    go_ret
    exact ⟨rfl, HB2.out⟩
  have q0 := HX2.out.cell 0
  have q1 := HX2.out.cell 1
  have q2 := HX2.out.cell 2
  have q3 := HX2.out.cell 3
  have q4 := HX2.out.cell 4
  have q5 := HX2.out.cell 5
  have q6 := HX2.out.cell 6
  have q7 := HX2.out.cell 7
  have q8 := HX2.out.cell 8
  have q9 := HX2.out.cell 9
  have q10 := HX2.out.cell 10
  have q11 := HX2.out.cell 11
  have ql := HX2.out.lt
  simp only [List.getElem?_cons_zero, List.getElem?_cons_succ] at q0 q1 q2 q3 q4 q5 q6 q7 q8 q9 q10 q11
  have HX3 := Lib.hid (Has.new w2 37 [.int .i64 d, .int .u64 (c : Int), .int .i64 kk, .int .i64 kn, .string ks, .int .u64 (kl : Int), .int .i64 xk, .int .i64 xn, .string xs, .int .u64 (xl : Int), .int .i64 nn, .slice asl st.length acp])
  have HB3 := Lib.hid (HB2.out.alloc HB2.out.size (.cells #[.int .i64 d, .int .u64 (c : Int), .int .i64 kk, .int .i64 kn, .string ks, .int .u64 (kl : Int), .int .i64 xk, .int .i64 xn, .string xs, .int .u64 (xl : Int), .int .i64 nn, .slice asl st.length acp] 37))
  have HF := Lib.hid (few_any [⟨d, c, ⟨kk, kn, ks, kl⟩, ⟨xk, xn, xs, xl⟩, nn, st⟩] _ _ (acts_one HX3.out HST.out (Nat.le_refl _) HB3.out) (by intro a ha; have h9 : a = ⟨d, c, ⟨kk, kn, ks, kl⟩, ⟨xk, xn, xs, xl⟩, nn, st⟩ := (by simpa using ha); rw [h9]; exact HAO.out))
  go_wp2_with fail
  refine (HF.out).mono ?_
  rintro e w4 ⟨b, rfl, hb, hb4⟩
  have HB4 := Lib.hid (HB3.out.trans (hb4.mono HB3.out.size))
  have HX4 := Lib.hid ((HX2.out.keeps (Keeps.alloc [] w2 (.cells #[.int .i64 d, .int .u64 (c : Int), .int .i64 kk, .int .i64 kn, .string ks, .int .u64 (kl : Int), .int .i64 xk, .int .i64 xn, .string xs, .int .u64 (xl : Int), .int .i64 nn, .slice asl st.length acp] 37)) (by simp)).keeps (Keeps.below' hb4 []) (by simp))
  have HCost2 := Lib.hid hb
  clear hb hb4 HF HX3 HB3 HX2 HB2 q0 q1 q2 q3 q4 q5 q6 q7 q8 q9 q10 q11 ql
  cases b
  · go_wp2
    go_ret
    exact ⟨rfl, HB4.out⟩
  have hN2 : 10 + st.length ≤ 2000 := by have := HCost2.out (by trivial); simpa [costA] using this
  have hN1 : costA la ≤ 2000 := HCost.out (by trivial)
  go_wp2_with fail
  refine (tnew_any own w4).mono ?_
  rintro e w5 ⟨rfl, hw5⟩
  subst hw5
  have HBo := Lib.hid (both_new w4 own ho)
  have hB5 := (HB4.out.alloc HB4.out.size (.cells #[.int .u64 (own : Int), .slice none 0 0, .map none, .slice none 0 0, .map none] 66)).alloc (by have := HB4.out.size; simp; omega) (.cells #[.int .u64 (own : Int), .slice none 0 0, .slice none 0 0] 33)
  have HB5 := Lib.hid hB5
  have hb5 := ((Below.refl w4.heap.size w4).alloc (Nat.le_refl _) (.cells #[.int .u64 (own : Int), .slice none 0 0, .map none, .slice none 0 0, .map none] 66)).alloc (by simp) (.cells #[.int .u64 (own : Int), .slice none 0 0, .slice none 0 0] 33)
  have HBw := Lib.hid hb5
  clear hB5 hb5
  obtain ⟨n0, hn0⟩ : ∃ n, w4.heap.size = n := ⟨_, rfl⟩
  have HN0 := Lib.hid hn0
  have HL4 := Lib.hid (HL.out.below (Nat.le_refl _) HB4.out)
  have HS4 := Lib.hid (HST.out.below (Nat.le_refl _) HB4.out)
  have hwn : w.heap.size ≤ n0 := by rw [← hn0]; exact HB4.out.size
  have hxn : w.heap.size < n0 := by rw [← hn0]; exact HX4.out.lt
  simp only [hn0] at HBo HBw
  go_wp2
  clear hn0
  go_loopw [34] (fun i wr => ∃ (k : Nat) (fs : List Fd) (ss : List St) (O : List Nat), i = .int .i64 k ∧ k ≤ la.length ∧ Hid (Both wr n0 n0 (n0 + 1) own (costA (la.take k)) fs ss O) ∧ Hid (Below n0 w4 wr)) (fun i _ => la.length - (intOf i).toNat)
  case atStart => exact ⟨0, [], [], _, rfl, Nat.zero_le _, HBo, HBw⟩
  case round =>
    obtain ⟨k, fs, ss, O, rfl, hk, HBk, HBl⟩ := hrel
    have HBw6 : Hid (Below w.heap.size w wr) := Lib.hid (HB4.out.trans (HBl.out.mono hwn))
    by_cases hlt : k < la.length
    · obtain ⟨a, hak⟩ : ∃ a, la[k]? = some a := ⟨_, List.getElem?_eq_getElem hlt⟩
      obtain ⟨b, o, sv, rfl, hbl, hsv, hcs⟩ := HL4.out.at (Nat.le_of_eq HN0.out) HBl.out hak
      obtain ⟨asl2, acp2, rfl, -⟩ := id hsv
      have HCk := Lib.hid (costA_take hak)
      have hle := costA_le la (k + 1)
      have HOk := Lib.hid (HLO.out a (List.mem_of_getElem? hak))
      have hbo := HBk.out.below ((Below.refl wr.heap.size wr).alloc (Nat.le_refl _) (.cells (a.cells (.slice asl2 a.st.length acp2)).toArray 37))
      have hbl6 := HBl.out.alloc (Nat.le_trans (by rw [← HN0.out]; exact Nat.le_refl _) HBl.out.size) (.cells (a.cells (.slice asl2 a.st.length acp2)).toArray 37)
      have HAct := Lib.hid (act_any _ w4 n0 n0 (n0 + 1) own (costA (la.take k)) fs ss O hbo a _ HOk.out (Nat.le_of_eq HN0.out) hbl6 hsv (by rw [← HCk.out]; omega))
      rw [← HCk.out] at HAct
      have HBo6 := Lib.hid hbo
      have HBl6 := Lib.hid hbl6
      have hnew := Has.new wr 37 (a.cells (.slice asl2 a.st.length acp2))
      obtain ⟨r1, hr1⟩ : ∃ r, actF own fs ss a = r := ⟨_, rfl⟩
      rw [hr1] at HAct
      obtain ⟨fs1, ss1⟩ := r1
      obtain ⟨d', c', ⟨kk', kn', ks', kl'⟩, ⟨xk', xn', xs', xl'⟩, nn', st'⟩ := a
      have p0 := hcs 0 _ rfl
      have p1 := hcs 1 _ rfl
      have p2 := hcs 2 _ rfl
      have p3 := hcs 3 _ rfl
      have p4 := hcs 4 _ rfl
      have p5 := hcs 5 _ rfl
      have p6 := hcs 6 _ rfl
      have p7 := hcs 7 _ rfl
      have p8 := hcs 8 _ rfl
      have p9 := hcs 9 _ rfl
      have p10 := hcs 10 _ rfl
      have p11 := hcs 11 _ rfl
      simp only [Nat.add_zero] at p0
      have r0 := hnew.cell 0
      have r1 := hnew.cell 1
      have r2 := hnew.cell 2
      have r3 := hnew.cell 3
      have r4 := hnew.cell 4
      have r5 := hnew.cell 5
      have r6 := hnew.cell 6
      have r7 := hnew.cell 7
      have r8 := hnew.cell 8
      have r9 := hnew.cell 9
      have r10 := hnew.cell 10
      have r11 := hnew.cell 11
      have rl := hnew.lt
      simp only [ActT.cells, List.getElem?_cons_zero, List.getElem?_cons_succ] at r0 r1 r2 r3 r4 r5 r6 r7 r8 r9 r10 r11 rl HAct HBl6
      clear hcs hnew hak hbo hbl6 hr1 hsv
      go_wp2_with fail
      refine (HAct.out).mono ?_
      rintro e w7 ⟨rfl, O', hbo7, hos7⟩
      have HBo7 := Lib.hid hbo7
      have HBl7 : Hid (Below n0 w4 w7) := Lib.hid (HBl6.out.trans (hos7.toBelow HBo6.out))
      clear hbo7 hos7 p0 p1 p2 p3 p4 p5 p6 p7 p8 p9 p10 p11 r0 r1 r2 r3 r4 r5 r6 r7 r8 r9 r10 r11 rl
      go_wp2
      go_roundw
      case rel => exact ⟨k + 1, fs1, ss1, O', by go_num, by omega, HBo7, HBl7⟩
      case measure => simp [intOf]; omega
    · have : k = la.length := by omega
      subst this
      have HX6 := Lib.hid (HX4.out.below HBl.out hxn)
      have hbk := HBk.out
      rw [List.take_length] at hbk
      have HBk := Lib.hid hbk
      clear hbk
      obtain ⟨fv, pm, sv, nm, gv, rv, h1, h2, h3, h4, h5, h6, h7, h8, h9⟩ := HBk.out
      have HT := Lib.hid (tput_any n0 n0 own (costA la) fs fv pm sv nm ss c HAO.out.1 ⟨kk, kn, ks, kl⟩ ⟨xk, xn, xs, xl⟩ HAO.out.2.1 HAO.out.2.2.1 _ h9 h1 (by omega))
      have HPO := Lib.hid (fun fs1 h => put_ok (lab := own) (fs := fs) (fs1 := fs1) (ss := ss) (c := c) (key := ⟨kk, kn, ks, kl⟩) (v := ⟨xk, xn, xs, xl⟩) h)
      have HPE := Lib.hid (put_er (lab := own) (fs := fs) (ss := ss) (c := c) (key := ⟨kk, kn, ks, kl⟩) (v := ⟨xk, xn, xs, xl⟩))
      obtain ⟨⟨er, fs1⟩, hpf⟩ : ∃ r, putF own fs ss c ⟨kk, kn, ks, kl⟩ ⟨xk, xn, xs, xl⟩ = r := ⟨_, rfl⟩
      rw [hpf] at HT HPE
      simp only [hpf] at HPO
      have HGt := Lib.hid (fun (W : World) (fv' : Value) (pm' : Option Nat) (hW : IsT W n0 n0 own fs1 fv' pm' sv (.map nm)) => get_any n0 n0 own fs1 fv' sv (.map nm) pm' ⟨kk, kn, ks, kl⟩ HAO.out.2.1 W hW)
      have HJ1 := fun W => Lib.hid (refJoin_any kl own HAO.out.2.1.2.2.2 ho W)
      have HJ2 := fun W => Lib.hid (refJoin_any c xl HAO.out.1 HAO.out.2.2.1.2.2.2 W)
      have HJ3 := fun W => Lib.hid (refJoin_any (kl ||| own) (c ||| xl) (or_lt HAO.out.2.1.2.2.2 ho) (or_lt HAO.out.1 HAO.out.2.2.1.2.2.2) W)
      have HWi := fun W => Lib.hid (refWith_any ⟨xk, xn, xs, xl⟩ ((kl ||| own) ||| (c ||| xl)) HAO.out.2.2.1.2.2.2 (or_lt (or_lt HAO.out.2.1.2.2.2 ho) (or_lt HAO.out.1 HAO.out.2.2.1.2.2.2)) W)
      have HKn : Hid (∀ x ∈ tblk n0 fv pm, n0 ≤ x) := Lib.hid (fun x hx => (HBk.out.parts x (by rw [h8]; exact List.mem_append_left _ hx)).1)
      simp only [V.agg, V.with] at HT HJ1 HJ2 HJ3 HWi HGt
      have HN9 := Lib.hid h9
      clear h1 h2 h3 h4 h5 h6 h7 h8 h9 hpf
      have q1 := HX6.out.cell 1
      have q2 := HX6.out.cell 2
      have q3 := HX6.out.cell 3
      have q4 := HX6.out.cell 4
      have q5 := HX6.out.cell 5
      have q6 := HX6.out.cell 6
      have q7 := HX6.out.cell 7
      have q8 := HX6.out.cell 8
      have q9 := HX6.out.cell 9
      have ql := HX6.out.lt
      simp only [List.getElem?_cons_zero, List.getElem?_cons_succ] at q1 q2 q3 q4 q5 q6 q7 q8 q9
      go_wp2_with fail
      refine (HT.out).mono ?_
      rintro e w7 ⟨rfl, fv7, pm7, ht7, hk7, -⟩
      have HT7 := Lib.hid ht7.1
      have HX7 := Lib.hid (HX6.out.keeps hk7 (fun hm => by have := HKn.out _ hm; omega))
      have HB7 : Hid (Below w.heap.size w w7) := Lib.hid (HBw6.out.trans ((hk7.toBelow n0 HN9.out HKn.out).mono hwn))
      clear ht7 hk7 q1 q2 q3 q4 q5 q6 q7 q8 q9 ql
      have hfo := HT7.out.2.2.2.2.2.1
      have HVok := Lib.hid (valOf_ok (key := ⟨kk, kn, ks, kl⟩) hfo)
      clear hfo
      have q2 := HX7.out.cell 2
      have q3 := HX7.out.cell 3
      have q4 := HX7.out.cell 4
      have q5 := HX7.out.cell 5
      have ql := HX7.out.lt
      simp only [List.getElem?_cons_zero, List.getElem?_cons_succ] at q2 q3 q4 q5
      rcases HPE.out with her | ⟨her, hfe⟩
      · have her : er = 0 := her
        subst her
        have hV := HPO.out fs1 rfl
        simp only [hV] at HGt
        clear hV HVok
        simp only [V.with, or_4] at HGt
        obtain ⟨L, hL⟩ : ∃ L, xl ||| ((kl ||| own) ||| (c ||| xl)) = L := ⟨_, rfl⟩
        simp only [hL] at HGt HWi
        clear hL
        have he := fun W => eqSelf W xk xn xs (L : Int)
        have he2 := fun W => eqSelfIn W xk xn xs (L : Int)
        go_wp2_with fail
        refine (HGt.out _ _ _ HT7.out).mono ?_
        rintro e w8 ⟨rfl, hb8⟩
        simp only [V.agg]
        have HX8 := Lib.hid ((HX7.out.below hb8 HX7.out.lt).keeps (Keeps.alloc [] w8 (.cells #[.int .i64 xk, .int .i64 xn, .string xs, .int .u64 (L : Int)] 35)) (by simp))
        have HV8 := Lib.hid (Has.new w8 35 [.int .i64 xk, .int .i64 xn, .string xs, .int .u64 (L : Int)])
        have hb8' := HB7.out.trans (hb8.mono HB7.out.size)
        have HB8 := Lib.hid (hb8'.alloc hb8'.size (.cells #[.int .i64 xk, .int .i64 xn, .string xs, .int .u64 (L : Int)] 35))
        clear hb8 hb8' q2 q3 q4 q5 ql
        have q1 := HX8.out.cell 1
        have q5 := HX8.out.cell 5
        have q6 := HX8.out.cell 6
        have q7 := HX8.out.cell 7
        have q8 := HX8.out.cell 8
        have q9 := HX8.out.cell 9
        have ql := HX8.out.lt
        simp only [List.getElem?_cons_zero, List.getElem?_cons_succ] at q1 q5 q6 q7 q8 q9
        go_wp2_with fail
        refine ((HJ1 _).out).mono ?_
        rintro e w9 ⟨rfl, hw⟩
        subst hw
        go_wp2_with fail
        refine ((HJ2 _).out).mono ?_
        rintro e w9 ⟨rfl, hw⟩
        subst hw
        go_wp2_with fail
        refine ((HJ3 _).out).mono ?_
        rintro e w9 ⟨rfl, hw⟩
        subst hw
        go_wp2
        clear q1 q5 q6 q7 q8 q9 ql
        generalize World.alloc w8 _ = W8 at HX8 HV8 HB8 ⊢
        have q6 := HX8.out.cell 6
        have q7 := HX8.out.cell 7
        have q8 := HX8.out.cell 8
        have q9 := HX8.out.cell 9
        have ql := HX8.out.lt
        simp only [List.getElem?_cons_zero, List.getElem?_cons_succ] at q6 q7 q8 q9
        have z0 := HV8.out.cell 0
        have z1 := HV8.out.cell 1
        have z2 := HV8.out.cell 2
        have z3 := HV8.out.cell 3
        have zl := HV8.out.lt
        simp only [List.getElem?_cons_zero, List.getElem?_cons_succ] at z0 z1 z2 z3
        have HSS : Hid (∀ W', Below W8.heap.size W8 W' → W'.cell? ⟨w.heap.size, 6, none⟩ = some (.int .i64 xk) ∧ W'.cell? ⟨w.heap.size, 7, none⟩ = some (.int .i64 xn) ∧ W'.cell? ⟨w.heap.size, 8, none⟩ = some (.string xs) ∧ W'.cell? ⟨w.heap.size, 9, none⟩ = some (.int .u64 (xl : Int)) ∧ W'.cell? ⟨w8.heap.size, 0, none⟩ = some (.int .i64 xk) ∧ W'.cell? ⟨w8.heap.size, 1, none⟩ = some (.int .i64 xn) ∧ W'.cell? ⟨w8.heap.size, 2, none⟩ = some (.string xs) ∧ W'.cell? ⟨w8.heap.size, 3, none⟩ = some (.int .u64 (L : Int))) := Lib.hid (fun W' hb => by
          have hx := HX8.out.below hb HX8.out.lt
          have hz := HV8.out.below hb HV8.out.lt
          exact ⟨hx.cell 6, hx.cell 7, hx.cell 8, hx.cell 9, hz.cell 0, hz.cell 1, hz.cell 2, hz.cell 3⟩)
        go_region_held3 (fun W' => W'.cell? ⟨w.heap.size, 6, none⟩ = some (.int .i64 xk) ∧ W'.cell? ⟨w.heap.size, 7, none⟩ = some (.int .i64 xn) ∧ W'.cell? ⟨w.heap.size, 8, none⟩ = some (.string xs) ∧ W'.cell? ⟨w.heap.size, 9, none⟩ = some (.int .u64 (xl : Int)) ∧ W'.cell? ⟨w8.heap.size, 0, none⟩ = some (.int .i64 xk) ∧ W'.cell? ⟨w8.heap.size, 1, none⟩ = some (.int .i64 xn) ∧ W'.cell? ⟨w8.heap.size, 2, none⟩ = some (.string xs) ∧ W'.cell? ⟨w8.heap.size, 3, none⟩ = some (.int .u64 (L : Int)))
          (first | exact HSS.out _ (Below.refl _ _).drew | exact HSS.out _ p1 | skip)
          (first
            | (go_at_call 17
               refine ((HWi _).out).mono ?_
               rintro e w9 ⟨rfl, hb9⟩
               have p1 := (Below.refl W8.heap.size W8).drew.trans hb9))
        all_goals
          have HE := Lib.hid (HB8.out.trans (p1.mono HB8.out.size))
          clear p1
          go_wp2
          go_ret
          exact ⟨rfl, HE.out⟩
      · have hern : ¬ er = 0 := her
        have herb : (er == 0) = false := by simpa using hern
        obtain ⟨V0, hV0⟩ : ∃ x, valOf fs1 ⟨kk, kn, ks, kl⟩ = x := ⟨_, rfl⟩
        simp only [hV0] at HGt HVok
        clear hV0
        obtain ⟨gk, gn, gs, gl⟩ := V0
        simp only at HGt HVok
        have HFw := fun W => Lib.hid (refFlows_any (kl ||| own) (gl ||| (kl ||| own)) (or_lt HAO.out.2.1.2.2.2 ho) (or_lt HVok.out (or_lt HAO.out.2.1.2.2.2 ho)) W)
        simp only [flows_or] at HFw
        go_wp2_with fail
        refine (HGt.out _ _ _ HT7.out).mono ?_
        rintro e w8 ⟨rfl, hb8⟩
        simp only [V.agg]
        have HX8 := Lib.hid ((HX7.out.below hb8 HX7.out.lt).keeps (Keeps.alloc [] w8 (.cells #[.int .i64 gk, .int .i64 gn, .string gs, .int .u64 ((gl ||| (kl ||| own) : Nat) : Int)] 35)) (by simp))
        have HV8 := Lib.hid (Has.new w8 35 [.int .i64 gk, .int .i64 gn, .string gs, .int .u64 ((gl ||| (kl ||| own) : Nat) : Int)])
        have hb8' := HB7.out.trans (hb8.mono HB7.out.size)
        have HB8 := Lib.hid (hb8'.alloc hb8'.size (.cells #[.int .i64 gk, .int .i64 gn, .string gs, .int .u64 ((gl ||| (kl ||| own) : Nat) : Int)] 35))
        clear hb8 hb8' q2 q3 q4 q5 ql
        have q5 := HX8.out.cell 5
        have ql := HX8.out.lt
        simp only [List.getElem?_cons_zero, List.getElem?_cons_succ] at q5
        have z3 := HV8.out.cell 3
        have zl := HV8.out.lt
        simp only [List.getElem?_cons_zero, List.getElem?_cons_succ] at z3
        go_wp2_with fail
        refine ((HJ1 _).out).mono ?_
        rintro e w9 ⟨rfl, hw⟩
        subst hw
        go_wp2_with fail
        refine ((HFw _).out).mono ?_
        rintro e w9 ⟨rfl, hw⟩
        subst hw
        go_wp2
        go_ret
        exact ⟨rfl, HB8.out⟩
section
variable {H : Type} {enc : TypeId × Value → H}
theorem tableLabels_u {r : Reach} {b0 : Nat} {d d' : DataW H} {ps ps' : List MemPlace} {sp : Nat → Bool} (l : Int) (hl : 0 ≤ l ∧ l ≤ 18446744073709551615) (v1 v2 : Value) (w : World) (g1 : Value.okWide Try.prog w r b0 24 v1) (h1 : DataW.Trod enc Try.prog w 0 sp true 24 v1 d ps)
    (hw1 : ∀ n ∈ d.weights Try.prog 24, n ≤ reachBytes) (g2 : Value.okWide Try.prog w r b0 37 v2) (h2 : DataW.Trod enc Try.prog w 0 sp true 37 v2 d' ps') (hw2 : ∀ n ∈ d'.weights Try.prog 37, n ≤ reachBytes) :
    Calls Try.prog 4 #[.int .u64 l, v1, v2] w fun e w' => e = .returned (.bool true) ∧ Below w.heap.size w w' := by
  obtain ⟨n, rfl⟩ : ∃ n : Nat, l = n := ⟨l.toNat, by omega⟩
  obtain ⟨la, hv, hla⟩ := open_acts g1 h1 hw1
  obtain ⟨⟨dd, c, ⟨kk, kn, ks, kl⟩, ⟨xk, xn, xs, xl⟩, nn, st⟩, sv, rfl, hst, hok⟩ := open_actv g2 h2 hw2
  obtain ⟨asl, acp, rfl, hr⟩ := hst
  exact tableLabels_any n (by unfold M64; omega) la v1 dd kk kn xk xn nn c kl xl ks xs st asl acp w hv hla hok ⟨asl, acp, rfl, hr⟩
end
end TabD
end Go.Proofs.Ytpmbbkhhnkhcbaa
