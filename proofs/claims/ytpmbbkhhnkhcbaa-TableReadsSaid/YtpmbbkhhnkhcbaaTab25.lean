/- Stamping a table: the walk. -/
import Derived.Test.YtpmbbkhhnkhcbaaTab24
import Derived.LoopTactic
namespace Go.Proofs.Ytpmbbkhhnkhcbaa
open Go.RowKit ObjM Go.Maps
namespace TabD
open LabelM LabelD ValD

theorem addr_at (b o n : Nat) : (⟨b, o, none⟩ : Addr).add n = ⟨b, o + n, none⟩ := by
  unfold Addr.add
  split
  · rename_i h; subst h; rfl
  · rfl
def SRound (w : World) (B T lab N : Nat) (fs : List Fd) (fv : Value) (pm : Option Nat) (sv : Value) (nm : Option Nat) (ss l : List St) (k : Nat) (v5 : Value) (wr : World) : Prop :=
  ∃ cur nx, stampsRun fs ss (l.take k) = some cur ∧ SAt w B T lab N fs fv pm sv nm ss k v5 cur nx wr
theorem below_keeps {w w' : World} (h : Below w.heap.size w w') : Keeps [] w w' := Keeps.below' h []
theorem keeps_cell {S : List Nat} {w w' : World} (h : Keeps S w w') {b o : Nat} (hb : b < w.heap.size) (hS : b ∉ S) : w'.cell? ⟨b, o, none⟩ = w.cell? ⟨b, o, none⟩ := by
  simp [World.cell?, h.block b hb hS]
set_option maxRecDepth 100000 in
set_option maxHeartbeats 4000000 in
theorem stamp_any (B T lab N : Nat) (fs : List Fd) (fv : Value) (pm : Option Nat) (sv : Value) (nm : Option Nat) (ss l : List St) (av : Option Addr) (cp : Nat) (w : World) (hI : IsTS w B T lab fs fv pm sv nm N ss) (hB : B ≤ w.heap.size) (hN : N + l.length ≤ 1000000) (hl : ∀ s ∈ l, StOk s)
    (hrow : l = [] ∨ ∃ g o, av = some ⟨g, o, none⟩ ∧ g < B ∧ ∀ i s, l[i]? = some s → w.cell? ⟨g, o + i * 2, none⟩ = some (.string s.1) ∧ w.cell? ⟨g, o + i * 2 + 1, none⟩ = some (.int .i64 s.2)) :
    Calls Try.prog 20 #[.pointer (some ⟨T, 0, none⟩), .slice av l.length cp] w (StampIs w B T lab fs fv pm sv nm N ss l) := by
  have HI := Lib.hid hI
  have HR := Lib.hid hrow
  have HL := Lib.hid hl
  have hnS := hI.2.1.2.2.2.1
  have HC := Lib.hid (clone_any B sv ss w hI.2.1.1 (by omega))
  have t3 := hI.1.1.cell 3
  have hlT := hI.1.1.lt
  simp only [List.getElem?_cons_zero, List.getElem?_cons_succ] at t3
  have HSB : Hid (∀ g, g < B → g ∉ T :: nm.toList) := Lib.hid (fun g hg hm => by
    rcases List.mem_cons.1 hm with rfl | hm
    · have := hI.1.2.2.2.1
      omega
    · have e : nm = some g := by simpa using hm
      have h9 := hI.2.1.2.1
      rw [e] at h9
      have := h9.1
      omega)
  have HNM : Hid (∀ b, nm = some b → ∀ t cs, ¬ Has w b t cs) := Lib.hid (fun b hb t cs hc => by
    subst hb
    exact hI.2.1.2.1.ne hc rfl)
  clear hI hrow hl
  go_enter Try.func20, Try.ntmps20
  go_wp2_with fail
  refine (HC.out).mono ?_
  rintro e w1 ⟨v1, rfl, ho1, hb1⟩
  have H1 : Hid (SRound w B T lab N fs fv pm sv nm ss l 0 v1 w1) := Lib.hid ⟨ss, nm, rfl, HI.out.1.1.keeps (below_keeps hb1) (by simp), ho1, HI.out.2.1.2.1.below hb1, HI.out.2.1.2.2.1, by omega, Ext.refl ss, Keeps.below' hb1 _, fun x hx => .inl hx⟩
  clear ho1 hb1 t3 hlT HC
  go_wp2
  go_loopw [5, 20] (fun v i wr => ∃ k : Nat, i = .int .i64 k ∧ k ≤ l.length ∧ SRound w B T lab N fs fv pm sv nm ss l k v wr) (fun _ i _ => l.length - (intOf i).toNat)
  case atStart => exact ⟨0, rfl, Nat.zero_le _, H1.out⟩
  case round =>
    obtain ⟨k, rfl, hk, cur, nx, hrun, hat⟩ := hrel
    have hn1 := hat.len
    obtain ⟨a5, cap5, rfl⟩ := own_slice hat.row
    have A0 := Lib.hid hat
    have HRun := Lib.hid hrun
    have hExt := hat.ext.le
    clear hat hrun
    by_cases hlt : k < l.length
    · obtain ⟨s, hsk⟩ : ∃ s, l[k]? = some s := ⟨_, List.getElem?_eq_getElem hlt⟩
      have HSok := Lib.hid (HL.out s (List.mem_of_getElem? hsk))
      obtain ⟨g, o, rfl, hgl, g0, g1⟩ : ∃ g o, av = some ⟨g, o, none⟩ ∧ g < wr.heap.size ∧ wr.cell? ⟨g, o + k * 2, none⟩ = some (.string s.1) ∧ wr.cell? ⟨g, o + k * 2 + 1, none⟩ = some (.int .i64 s.2) := by
        rcases HR.out with h9 | ⟨g, o, h1, h2, h3⟩
        · rw [h9] at hlt
          simp at hlt
        · have hg : g < w.heap.size := by omega
          exact ⟨g, o, h1, by have := A0.out.keeps.size; omega, (keeps_cell A0.out.keeps hg (HSB.out g h2)).trans (h3 k s hsk).1, (keeps_cell A0.out.keeps hg (HSB.out g h2)).trans (h3 k s hsk).2⟩
      have HSK := Lib.hid hsk
      clear hsk
      have hb0 := Has.new wr 44 [.string s.1, .int .i64 s.2]
      have b0 := hb0.cell 0
      have hlb := hb0.lt
      simp only [List.getElem?_cons_zero] at b0
      have A1 := Lib.hid (A0.out.step (Keeps.alloc [] wr (.cells #[.string s.1, .int .i64 s.2] 44)))
      have HF := Lib.hid (find_key B T lab fs fv sv (.map nx) pm (strKey s.1) (strKey_ok s.1 HSok.out.1) (strKey_key s.1) _ (HI.out.1.at HI.out.2.2 HNM.out A1.out.keeps A1.out.tab))
      have HX1 := Lib.hid hb0
      have HNE : Hid (∀ x, (Value.slice a5 cur.length cap5).ownBlock = some x → x ≠ wr.heap.size) := Lib.hid (fun x hx => Nat.ne_of_lt (own_lt A0.out.row x hx).2)
      clear hb0
      have hn0 : w.heap.size ≤ wr.heap.size := A0.out.keeps.size
      have hcase : placeOf fs (strKey s.1) = none ∨ ∃ i, placeOf fs (strKey s.1) = some i := by cases placeOf fs (strKey s.1) <;> simp
      rcases hcase with hpl | ⟨i, hpl⟩
      · have HDead : Hid (stampsRun fs ss l = none) := Lib.hid (run_dead HSK.out HRun.out (by simp [stepS, kindAt, hpl]))
        have hp1 : placeI fs (strKey s.1) = 0 := by unfold placeI; rw [hpl]
        have hp2 : placeB fs (strKey s.1) = false := by unfold placeB; rw [hpl]; rfl
        rw [hp1, hp2] at HF
        clear hp1 hp2 hpl
        go_wp2_with fail
        refine (HF.out).mono ?_
        rintro e w2 ⟨rfl, hb2⟩
        have A2 := Lib.hid (A1.out.step (below_keeps hb2))
        have t3 := A2.out.tab.cell 3
        have hlT := A2.out.tab.lt
        simp only [List.getElem?_cons_zero, List.getElem?_cons_succ] at t3
        have hsv : ∃ asv csv, sv = .slice asv ss.length csv := own_slice HI.out.2.1.1
        obtain ⟨asv, csv, rfl⟩ := hsv
        clear hb2
        by_cases hcap : cap5 = ss.length
        · subst hcap
          go_wp2_with fail
          refine (forget_at B T (N + k) nx _ _ _ _ (nameAt cur) ((cur).drop ss.length) (fun s hs => A2.out.ok s (List.mem_of_mem_drop hs)) (by have := A2.out.len; rw [List.length_drop]; omega) _ _ _ (by rw [List.length_drop]) _ A2.out.tab A2.out.named (drop_row A2.out.row (by first | (simp; done) | simp [addr_at]))).mono ?_
          rintro e9 w9 ⟨rfl, hf9⟩
          have HEnd := Lib.hid (stamp_no HI.out A2.out (by omega) hN HDead.out hf9)
          clear hf9
          go_wp2
          go_ret
          exact HEnd.out
        · go_wp2_with fail
          refine (forget_at B T (N + k) nx _ _ _ _ (nameAt cur) ((cur).drop ss.length) (fun s hs => A2.out.ok s (List.mem_of_mem_drop hs)) (by have := A2.out.len; rw [List.length_drop]; omega) _ _ _ (by rw [List.length_drop]) _ A2.out.tab A2.out.named (drop_row A2.out.row (by first | (simp [hcap]; done) | simp [addr_at, hcap]))).mono ?_
          rintro e9 w9 ⟨rfl, hf9⟩
          have HEnd := Lib.hid (stamp_no HI.out A2.out (by omega) hN HDead.out hf9)
          clear hf9
          go_wp2
          go_ret
          exact HEnd.out
      · obtain ⟨f, hf, -⟩ := placeOf_some hpl
        have hp1 : placeI fs (strKey s.1) = i := by unfold placeI; rw [hpl]
        have hp2 : placeB fs (strKey s.1) = true := by unfold placeB; rw [hpl]; rfl
        have HKd : Hid (kindAt fs (strKey s.1) = some f.2.k) := Lib.hid (by simp [kindAt, hpl, hf])
        have HFf := Lib.hid hf
        have hif : i < fs.length := (List.getElem?_eq_some_iff.1 hf).1
        rw [hp1, hp2] at HF
        clear hp1 hp2 hpl hf
        go_wp2_with fail
        refine (HF.out).mono ?_
        rintro e w2 ⟨rfl, hb2⟩
        have A2 := Lib.hid (A1.out.step (below_keeps hb2))
        have HX2 := Lib.hid (HX1.out.below hb2 HX1.out.lt)
        have t4 := A2.out.tab.cell 4
        have hlT := A2.out.tab.lt
        simp only [List.getElem?_cons_zero, List.getElem?_cons_succ] at t4
        have c0 := HX2.out.cell 0
        have hlx := HX2.out.lt
        simp only [List.getElem?_cons_zero] at c0
        have hlk : ∀ n, (Instr.lookup 64 (.map nx) (.string s.1) true).run Try.prog (w2.drewN n) = _ := fun n => look_name (w := w2.drewN n) A2.out.named s.1 HSok.out.1
        clear hb2 A1 HX1 b0 hlb
        have hcase : nameAt cur (key8 s.1) = none ∨ ∃ n, nameAt cur (key8 s.1) = some n := by cases nameAt cur (key8 s.1) <;> simp
        rcases hcase with hna | ⟨n, hna⟩
        · rw [hna] at hlk
          simp only [Option.getD_none, Option.isSome_none] at hlk
          go_wp2
          go_quiet (fail)
          have A3 := Lib.hid (A2.out.step (Keeps.drewN [] w2 nq))
          have HX3 := Lib.hid (HX2.out.keeps (Keeps.drewN [] w2 nq) (by simp))
          have hrow3 := A3.out.row.alloc (.cells #[.string s.1, .int .i64 s.2] 44)
          have hn3 := A3.out.keeps.size
          generalize World.drewN w2 nq = w3 at A3 HX3 hrow3 hn3 ⊢
          clear A2 HX2 t4 hlT c0 hlx hlk
          have c0 := HX3.out.cell 0
          have c1 := HX3.out.cell 1
          have hlx := HX3.out.lt
          simp only [List.getElem?_cons_zero, List.getElem?_cons_succ] at c0 c1
          obtain ⟨i0, hi, hz0, hz1, hz2⟩ := info_parts infoSt
          have HO3 := Lib.hid hrow3
          have HN3 := Lib.hid hn3
          clear hrow3 hn3
          go_wp2_with (at_builtin; refine wpList_append_own _ rfl _ _ 31 rfl w.heap.size 44 i0 (.agg #[.string ⟨#[]⟩, .int .i64 0]) 2 24 Try.underlying31 hi hz0 hz1 hz2 rfl (by decide) _ _ _ rfl HO3.out ⟨w3.heap.size, 0, none⟩ 1 1 [.string s.1, .int .i64 s.2] rfl ?qc1 ?qc2 ?qc3 ?qc4 ?qc5 ?qc6 ?_)
          case qc1 => rfl
          case qc2 =>
            intro j u hj
            rw [addr_at, Nat.zero_add]
            exact ((Has.new w3 44 [.string s.1, .int .i64 s.2]).cell j).trans hj
          case qc3 => simp [Value.oneCell']
          case qc4 => unfold maxLen; omega
          case qc5 => omega
          case qc6 => have := HN3.out; simp; omega
          intro v6 w6 hown6 hgrow6 _
          have HX6 := Lib.hid ((HX3.out.keeps (Keeps.alloc [] w3 (.cells #[.string s.1, .int .i64 s.2] 44)) (by simp)).keeps (Keeps.grown hgrow6) (fun hm => HNE.out _ (by simpa using hm) rfl))
          obtain ⟨tab6, named6, keeps6, size6⟩ := A3.out.app hgrow6
          obtain ⟨cw, hcw⟩ : ∃ c, cur ++ [s] = c := ⟨_, rfl⟩
          have hlcw : cw.length = cur.length + 1 := by rw [← hcw]; simp
          have hecw : cw[cur.length]? = some s := by rw [← hcw]; simp
          have hncw : nameAt cw (key8 s.1) = some cur.length := by rw [← hcw, nameAt_snoc, hna]; simp
          have HNar : Hid (narrow cur s = cw.set cur.length (s.1, andI s.2 s.2)) := Lib.hid (by rw [← hcw]; exact narrow_none hna)
          have HOw := hown6
          rw [← hlcw] at HOw
          obtain ⟨g6, cap6, hv6⟩ : ∃ g6 cap6, v6 = .slice (some ⟨g6, 0, none⟩) cw.length cap6 := by
            rcases own_shape HOw with ⟨_, h9, _⟩ | ⟨g6, cap6, _, h9, _⟩
            · omega
            · exact ⟨g6, cap6, h9⟩
          subst hv6
          have HSn := Lib.hid (fun (e7 : Ending) (w7 : World) hnm => A3.out.snoc (w7 := w7) (e := e7) hgrow6 s HSok.out hna hown6 hnm)
          rw [hcw] at HSn
          have HNm := Lib.hid (name_any B T (N + k) nx _ _ _ _ (nameAt cur) s.1 HSok.out.1 cur.length (by omega) (by omega) w6 (by have := keeps6.size; omega) tab6 named6)
          have HT6 := Lib.hid tab6
          have HN6 := Lib.hid named6
          clear hown6 hgrow6 tab6 named6 keeps6 size6 HOw hcw hlcw c0 c1 hlx
          have c0 := HX6.out.cell 0
          have hlx := HX6.out.lt
          simp only [List.getElem?_cons_zero] at c0
          go_wp2_with fail
          refine (HNm.out).mono ?_
          rintro e7 w7 hnm7
          obtain ⟨nx', hat7⟩ := HSn.out e7 w7 hnm7
          have A7 := Lib.hid hat7
          obtain ⟨rfl, nx7, _, _, hk7, _⟩ := hnm7
          have HX7 := Lib.hid (HX6.out.keeps hk7 (fun hm => by
            rcases List.mem_cons.1 hm with h9 | h9
            · have h8 := HX6.out
              rw [h9] at h8
              exact h8.ne HT6.out (by decide) rfl
            · have e9 : nx = some wr.heap.size := by simpa using h9
              have h8 := HN6.out
              rw [e9] at h8
              exact h8.ne HX6.out rfl))
          clear hat7 hk7 c0 hlx
          go_wp2
          obtain ⟨y, hy⟩ : ∃ y, andI s.2 s.2 = y := ⟨_, rfl⟩
          have hyb : bits BinOp.and IntKind.i64 s.2 s.2 = y := hy
          obtain ⟨⟨cs5, hG5, hc5⟩, hat5⟩ := (A7.out.step (Keeps.drew [] w7)).kinds cur.length s hecw s.2 s.2
          rw [hy] at hat5
          have A5 := Lib.hid hat5
          have v5 := hG5.cell (cur.length * 2 + 1)
          rw [hc5] at v5
          have q5 := hG5.frozen (cur.length * 2 + 1)
          have hlg5 := hG5.lt
          have c1 := HX7.out.drew.cell 1
          have hlx := HX7.out.drew.lt
          simp only [List.getElem?_cons_zero, List.getElem?_cons_succ] at c1
          have hni : cur.length < (cw).length := (List.getElem?_eq_some_iff.1 hecw).1
          have hi1 : (cur.length : Int) < ((cw).length : Int) := by omega
          have hi0 : (0 : Int) ≤ (cur.length : Int) := by omega
          have hk5 := (hG5.set (cur.length * 2 + 1) (.int .i64 y)).cell (cur.length * 2 + 1)
          rw [List.getElem?_set_self (List.getElem?_eq_some_iff.1 hc5).1] at hk5
          have hlk5 := (hG5.set (cur.length * 2 + 1) (.int .i64 y)).lt
          have HK5 := Lib.hid hk5
          have HLK5 := Lib.hid hlk5
          have hc1n := A7.out.len
          have hss2 : ss.length ≤ (cw).length := A7.out.ext.le
          have HYes : Hid (mayB y f.2.k = true → stepS fs cur s = some ((cw).set cur.length (s.1, y))) := Lib.hid (fun hm => by rw [← hy] at hm ⊢; exact step_some HKd.out HNar.out hncw hecw hm)
          have HNo : Hid (mayB y f.2.k = false → stepS fs cur s = none) := Lib.hid (fun hm => step_no (c1 := cw) (n := cur.length) (e := s) HKd.out HNar.out hncw hecw (by rw [hy]; exact hm))
          have hIT := HI.out.1.at HI.out.2.2 HNM.out A5.out.keeps A5.out.tab
          have hlen2 : ((cw).set cur.length (s.1, y)).length = (cw).length := List.length_set
          obtain ⟨c2, hc2⟩ : ∃ c, (cw).set cur.length (s.1, y) = c := ⟨_, rfl⟩
          rw [hc2] at A5 HYes hlen2
          have hrowf : ∀ j, j < 8 → ∀ u, (fcells f.1 f.2)[j]? = some u → (rowF fs)[i * 8 + j]? = some u := fun j hj u hu => by rw [rowF_at fs i f HFf.out j hj]; exact hu
          obtain ⟨gf, capf, hfv, hgfl, hgf⟩ : ∃ gf capf, fv = .slice (some ⟨gf, 0, none⟩) fs.length capf ∧ gf < ((World.drew w7).setCell ⟨g6, cur.length * 2 + 1, none⟩ (.int .i64 y)).heap.size ∧ ((World.drew w7).setCell ⟨g6, cur.length * 2 + 1, none⟩ (.int .i64 y)).cell? ⟨gf, i * 8 + 4, none⟩ = some (.int .i64 f.2.k) := by
            have hO := hIT.2.1
            rcases own_shape hO with ⟨_, h9, _⟩ | ⟨gf, capf, csf, hfv, _, hh, _⟩
            · omega
            · rw [hfv] at hO
              obtain ⟨hj, hv7⟩ := List.getElem?_eq_some_iff.1 (hrowf 4 (by omega) (.int .i64 f.2.k) rfl)
              exact ⟨gf, capf, hfv, hh.lt, by rw [own_cell hO _ hj, hv7]⟩
          subst hfv
          have HGF := Lib.hid hgf
          have HGFL := Lib.hid hgfl
          have t1 := A5.out.tab.cell 1
          have hlT := A5.out.tab.lt
          have t3' := A5.out.tab.cell 3
          simp only [List.getElem?_cons_zero, List.getElem?_cons_succ] at t1 t3'
          have T1 := Lib.hid t1
          have T3 := Lib.hid t3'
          have HLT := Lib.hid hlT
          have hj1 : (i : Int) < (fs.length : Int) := by omega
          have hj0 : (0 : Int) ≤ (i : Int) := by omega
          have HY := Lib.hid hy
          clear hat5 hG5 hc5 hk5 hlk5 hIT hc2 hrowf hgf hgfl t1 t3' hlT hy
          refine wp_region_still_tail 10 (by kernel_rfl) (by kernel_rfl) ?_
          simp only [List.take_succ_cons, List.take_zero, List.drop_succ_cons, List.drop_zero]
          change wpStill _ _ (World.drew _) (fun a' => wpList _ _ _ _ a' (World.drew _)) _ _
          generalize World.drew w7 = W8 at *
          repeat still_step
          refine wpStill_nil ?_
          go_wp2
          clear v5 q5 c1 hlx hlg5 hyb
          generalize World.setCell W8 _ _ = W9 at A5 HK5 HLK5 HGF HGFL T1 T3 HLT ⊢
          have k5 := HK5.out
          have lk5 := HLK5.out
          have kf := HGF.out
          have lf := HGFL.out
          have t1 := T1.out
          have lT := HLT.out
          obtain ⟨mb, hmb⟩ : ∃ b, mayB y f.2.k = b := ⟨_, rfl⟩
          have HM : ∀ W, Calls Try.prog 41 #[.int .i64 y, .int .i64 f.2.k] W (fun e w' => e = .returned (.bool mb) ∧ W = w') := fun W => by rw [← hmb]; exact may_any y f.2.k W
          have HMay := Lib.hid HM
          have HMB := Lib.hid hmb
          clear HM hmb
          go_quiet ((go_at_call 41; with_reducible exact quiet_left (HMay.out _)))
          have A6 := Lib.hid (A5.out.step (Keeps.drewN [] W9 nq))
          generalize World.drewN W9 nq = W10 at A6 ⊢
          clear k5 lk5 kf lf t1 lT HK5 HLK5 HGF HGFL T1 T3 HLT A5
          cases mb with
          | true =>
            have hstep := run_step HSK.out HRun.out (HYes.out HMB.out)
            have HS := Lib.hid hstep
            clear hstep
            go_wp2
            go_roundw
            case rel => exact ⟨k + 1, by go_num, by omega, c2, _, HS.out, A6.out⟩
            case measure => simp [intOf]; omega
          | false =>
            have HDead : Hid (stampsRun fs ss l = none) := Lib.hid (run_dead HSK.out HRun.out (HNo.out HMB.out))
            have t3 := A6.out.tab.cell 3
            have hlT := A6.out.tab.lt
            simp only [List.getElem?_cons_zero, List.getElem?_cons_succ] at t3
            have hsv : ∃ asv csv, sv = .slice asv ss.length csv := own_slice HI.out.2.1.1
            obtain ⟨asv, csv, rfl⟩ := hsv
            by_cases hcap : cap6 = ss.length
            · subst hcap
              go_wp2_with fail
              refine (forget_at B T (N + (k + 1)) nx' _ _ _ _ (nameAt c2) ((c2).drop ss.length) (fun s hs => A6.out.ok s (List.mem_of_mem_drop hs)) (by have := A6.out.len; rw [List.length_drop]; omega) _ _ _ (by rw [List.length_drop, hlen2]) _ A6.out.tab A6.out.named (drop_row A6.out.row (by first | (simp; done) | simp [addr_at]))).mono ?_
              rintro e9 w9 ⟨rfl, hf9⟩
              have HEnd := Lib.hid (stamp_no HI.out A6.out (by omega) hN HDead.out hf9)
              clear hf9
              go_wp2
              go_ret
              exact HEnd.out
            · go_wp2_with fail
              refine (forget_at B T (N + (k + 1)) nx' _ _ _ _ (nameAt c2) ((c2).drop ss.length) (fun s hs => A6.out.ok s (List.mem_of_mem_drop hs)) (by have := A6.out.len; rw [List.length_drop]; omega) _ _ _ (by rw [List.length_drop, hlen2]) _ A6.out.tab A6.out.named (drop_row A6.out.row (by first | (simp [hcap]; done) | simp [addr_at, hcap]))).mono ?_
              rintro e9 w9 ⟨rfl, hf9⟩
              have HEnd := Lib.hid (stamp_no HI.out A6.out (by omega) hN HDead.out hf9)
              clear hf9
              go_wp2
              go_ret
              exact HEnd.out
        · rw [hna] at hlk
          simp only [Option.getD_some, Option.isSome_some] at hlk
          obtain ⟨e3, he3, hke⟩ := nameAt_some hna
          obtain ⟨g5, hg5⟩ : ∃ g, a5 = some ⟨g, 0, none⟩ := by
            rcases own_shape A2.out.row with ⟨_, h9, _⟩ | ⟨g, _, _, h9, _⟩
            · have := (List.getElem?_eq_some_iff.1 he3).1
              omega
            · injection h9 with h9 _ _
              exact ⟨g, h9⟩
          subst hg5
          go_wp2
          go_quiet (fail)
          have A3 := Lib.hid ((A2.out.step (Keeps.drewN [] w2 nq)).more)
          have HX3 := Lib.hid (HX2.out.keeps (Keeps.drewN [] w2 nq) (by simp))
          have HNar : Hid (narrow cur s = cur.set n (e3.1, andI e3.2 s.2)) := Lib.hid (narrow_some hna he3)
          generalize World.drewN w2 nq = w3 at A3 HX3 ⊢
          clear A2 HX2 t4 hlT c0 hlx hlk hke
          go_wp2
          obtain ⟨y, hy⟩ : ∃ y, andI e3.2 s.2 = y := ⟨_, rfl⟩
          have hyb : bits BinOp.and IntKind.i64 e3.2 s.2 = y := hy
          obtain ⟨⟨cs5, hG5, hc5⟩, hat5⟩ := (A3.out.step (Keeps.drew [] w3)).kinds n e3 he3 e3.2 s.2
          rw [hy] at hat5
          have A5 := Lib.hid hat5
          have v5 := hG5.cell (n * 2 + 1)
          rw [hc5] at v5
          have q5 := hG5.frozen (n * 2 + 1)
          have hlg5 := hG5.lt
          have c1 := HX3.out.drew.cell 1
          have hlx := HX3.out.drew.lt
          simp only [List.getElem?_cons_zero, List.getElem?_cons_succ] at c1
          have hni : n < (cur).length := (List.getElem?_eq_some_iff.1 he3).1
          have hi1 : (n : Int) < ((cur).length : Int) := by omega
          have hi0 : (0 : Int) ≤ (n : Int) := by omega
          have hk5 := (hG5.set (n * 2 + 1) (.int .i64 y)).cell (n * 2 + 1)
          rw [List.getElem?_set_self (List.getElem?_eq_some_iff.1 hc5).1] at hk5
          have hlk5 := (hG5.set (n * 2 + 1) (.int .i64 y)).lt
          have HK5 := Lib.hid hk5
          have HLK5 := Lib.hid hlk5
          have hc1n := A3.out.len
          have hss2 : ss.length ≤ (cur).length := A3.out.ext.le
          have HYes : Hid (mayB y f.2.k = true → stepS fs cur s = some ((cur).set n (e3.1, y))) := Lib.hid (fun hm => by rw [← hy] at hm ⊢; exact step_some HKd.out HNar.out hna he3 hm)
          have HNo : Hid (mayB y f.2.k = false → stepS fs cur s = none) := Lib.hid (fun hm => step_no (c1 := cur) (n := n) (e := e3) HKd.out HNar.out hna he3 (by rw [hy]; exact hm))
          have hIT := HI.out.1.at HI.out.2.2 HNM.out A5.out.keeps A5.out.tab
          have hlen2 : ((cur).set n (e3.1, y)).length = (cur).length := List.length_set
          obtain ⟨c2, hc2⟩ : ∃ c, (cur).set n (e3.1, y) = c := ⟨_, rfl⟩
          rw [hc2] at A5 HYes hlen2
          have hrowf : ∀ j, j < 8 → ∀ u, (fcells f.1 f.2)[j]? = some u → (rowF fs)[i * 8 + j]? = some u := fun j hj u hu => by rw [rowF_at fs i f HFf.out j hj]; exact hu
          obtain ⟨gf, capf, hfv, hgfl, hgf⟩ : ∃ gf capf, fv = .slice (some ⟨gf, 0, none⟩) fs.length capf ∧ gf < ((World.drew w3).setCell ⟨g5, n * 2 + 1, none⟩ (.int .i64 y)).heap.size ∧ ((World.drew w3).setCell ⟨g5, n * 2 + 1, none⟩ (.int .i64 y)).cell? ⟨gf, i * 8 + 4, none⟩ = some (.int .i64 f.2.k) := by
            have hO := hIT.2.1
            rcases own_shape hO with ⟨_, h9, _⟩ | ⟨gf, capf, csf, hfv, _, hh, _⟩
            · omega
            · rw [hfv] at hO
              obtain ⟨hj, hv7⟩ := List.getElem?_eq_some_iff.1 (hrowf 4 (by omega) (.int .i64 f.2.k) rfl)
              exact ⟨gf, capf, hfv, hh.lt, by rw [own_cell hO _ hj, hv7]⟩
          subst hfv
          have HGF := Lib.hid hgf
          have HGFL := Lib.hid hgfl
          have t1 := A5.out.tab.cell 1
          have hlT := A5.out.tab.lt
          have t3' := A5.out.tab.cell 3
          simp only [List.getElem?_cons_zero, List.getElem?_cons_succ] at t1 t3'
          have T1 := Lib.hid t1
          have T3 := Lib.hid t3'
          have HLT := Lib.hid hlT
          have hj1 : (i : Int) < (fs.length : Int) := by omega
          have hj0 : (0 : Int) ≤ (i : Int) := by omega
          have HY := Lib.hid hy
          clear hat5 hG5 hc5 hk5 hlk5 hIT hc2 hrowf hgf hgfl t1 t3' hlT hy
          refine wp_region_still_tail 10 (by kernel_rfl) (by kernel_rfl) ?_
          simp only [List.take_succ_cons, List.take_zero, List.drop_succ_cons, List.drop_zero]
          change wpStill _ _ (World.drew _) (fun a' => wpList _ _ _ _ a' (World.drew _)) _ _
          generalize World.drew w3 = W8 at *
          repeat still_step
          refine wpStill_nil ?_
          go_wp2
          clear v5 q5 c1 hlx hlg5 hyb
          generalize World.setCell W8 _ _ = W9 at A5 HK5 HLK5 HGF HGFL T1 T3 HLT ⊢
          have k5 := HK5.out
          have lk5 := HLK5.out
          have kf := HGF.out
          have lf := HGFL.out
          have t1 := T1.out
          have lT := HLT.out
          obtain ⟨mb, hmb⟩ : ∃ b, mayB y f.2.k = b := ⟨_, rfl⟩
          have HM : ∀ W, Calls Try.prog 41 #[.int .i64 y, .int .i64 f.2.k] W (fun e w' => e = .returned (.bool mb) ∧ W = w') := fun W => by rw [← hmb]; exact may_any y f.2.k W
          have HMay := Lib.hid HM
          have HMB := Lib.hid hmb
          clear HM hmb
          go_quiet ((go_at_call 41; with_reducible exact quiet_left (HMay.out _)))
          have A6 := Lib.hid (A5.out.step (Keeps.drewN [] W9 nq))
          generalize World.drewN W9 nq = W10 at A6 ⊢
          clear k5 lk5 kf lf t1 lT HK5 HLK5 HGF HGFL T1 T3 HLT A5
          cases mb with
          | true =>
            have hstep := run_step HSK.out HRun.out (HYes.out HMB.out)
            have HS := Lib.hid hstep
            clear hstep
            go_wp2
            go_roundw
            case rel => exact ⟨k + 1, by go_num, by omega, c2, _, HS.out, A6.out⟩
            case measure => simp [intOf]; omega
          | false =>
            have HDead : Hid (stampsRun fs ss l = none) := Lib.hid (run_dead HSK.out HRun.out (HNo.out HMB.out))
            have t3 := A6.out.tab.cell 3
            have hlT := A6.out.tab.lt
            simp only [List.getElem?_cons_zero, List.getElem?_cons_succ] at t3
            have hsv : ∃ asv csv, sv = .slice asv ss.length csv := own_slice HI.out.2.1.1
            obtain ⟨asv, csv, rfl⟩ := hsv
            by_cases hcap : cap5 = ss.length
            · subst hcap
              go_wp2_with fail
              refine (forget_at B T (N + (k + 1)) nx _ _ _ _ (nameAt c2) ((c2).drop ss.length) (fun s hs => A6.out.ok s (List.mem_of_mem_drop hs)) (by have := A6.out.len; rw [List.length_drop]; omega) _ _ _ (by rw [List.length_drop, hlen2]) _ A6.out.tab A6.out.named (drop_row A6.out.row (by first | (simp; done) | simp [addr_at]))).mono ?_
              rintro e9 w9 ⟨rfl, hf9⟩
              have HEnd := Lib.hid (stamp_no HI.out A6.out (by omega) hN HDead.out hf9)
              clear hf9
              go_wp2
              go_ret
              exact HEnd.out
            · go_wp2_with fail
              refine (forget_at B T (N + (k + 1)) nx _ _ _ _ (nameAt c2) ((c2).drop ss.length) (fun s hs => A6.out.ok s (List.mem_of_mem_drop hs)) (by have := A6.out.len; rw [List.length_drop]; omega) _ _ _ (by rw [List.length_drop, hlen2]) _ A6.out.tab A6.out.named (drop_row A6.out.row (by first | (simp [hcap]; done) | simp [addr_at, hcap]))).mono ?_
              rintro e9 w9 ⟨rfl, hf9⟩
              have HEnd := Lib.hid (stamp_no HI.out A6.out (by omega) hN HDead.out hf9)
              clear hf9
              go_wp2
              go_ret
              exact HEnd.out
    · have : k = l.length := by omega
      subst this
      have hrun := HRun.out
      rw [List.take_length] at hrun
      have HEnd := Lib.hid (stamp_yes HI.out hB A0.out hN hrun)
      have t3 := A0.out.tab.cell 3
      have f3 := A0.out.tab.frozen 3
      have hlT := A0.out.tab.lt
      simp only [List.getElem?_cons_zero, List.getElem?_cons_succ] at t3
      clear hrun
      go_wp2
      go_ret
      exact HEnd.out
end TabD
end Go.Proofs.Ytpmbbkhhnkhcbaa
