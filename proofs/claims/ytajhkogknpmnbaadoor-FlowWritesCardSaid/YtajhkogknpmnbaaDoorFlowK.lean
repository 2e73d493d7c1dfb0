/- Sets of places settle: the walk. -/
import Derived.Test.YtajhkogknpmnbaaDoorFlowJ
namespace Go.Proofs.YtajhkogknpmnbaaDoor
open Go.RowKit ObjM
namespace FlowD
open FlowM PopM

set_option maxRecDepth 100000 in
set_option maxHeartbeats 16000000 in
theorem settle_some (N m g cap : Nat) (Ls : List (Nat × Nat × List Int)) (next : Nat → List Int) (l : List Int) (w : World) (hP : LiveP next m (liveOf l l.length)) (hm1 : 1 ≤ m) (hL : ListsTo w N m Ls) (hlen : Ls.length = m) (hnx : ∀ (i : Nat) (h : i < Ls.length), Ls[i].2.2 = next i) (hrow : RowAt w g l) (hnd : l.Nodup) (hl : ∀ z ∈ l, 0 ≤ z ∧ z < m) (hne : 1 ≤ l.length) :
    Calls Tryd.prog 27 #[.slice (some ⟨N, 0, none⟩) m m, .slice (some ⟨g, 0, none⟩) l.length cap, .int .i64 (m : Int)] w (Settled w next m (liveOf l l.length)) := by
  obtain ⟨i0, hi, hz0, hz1, hz2⟩ := info_sets
  have hm64 := hP.m64
  have HL := Lib.hid (fun (W : World) (hb : Below w.heap.size w W) => hL.below hb hL.n.lt (Nat.le_refl _))
  have HLn := Lib.hid hlen
  have HNx := Lib.hid hnx
  have HP := Lib.hid hP
  have HRow := Lib.hid (fun (W : World) (hb : Below w.heap.size w W) => hrow.below hb hrow.lt)
  have HlR := Lib.hid hl
  have HNd := Lib.hid hnd
  obtain ⟨L, hLl⟩ : ∃ L, l.length = L := ⟨_, rfl⟩
  have HLl := Lib.hid hLl
  have hL64 : L ≤ 64 := by
    have := nodup_len hnd hl
    omega
  rw [hLl] at HP hne ⊢
  clear hL hlen hnx hP hrow hl hnd hLl
  go_enter Tryd.func27, Tryd.ntmps27
  go_wp2
  go_step3
  go_wp2_with (at_make; refine wpList_make_full _ rfl _ _ 51 rfl w.heap.size 54 i0 (.slice none 0 0) 1 Tryd.underlying51 hi hz0 hz1 .i64 .i64 (m : Int) (m : Int) m rfl rfl rfl rfl ?c1 ?c2 ?c3 ?_)
  case c1 => rw [hz2]; omega
  case c2 => unfold maxLen; omega
  case c3 => exact Nat.le_refl _
  intro w1 hrow hgrow
  have hh := made_has hrow
  have hb1 : Below w.heap.size w w1 := (Below.refl _ w).grown hgrow (Nat.le_refl _) (fun k hk => by cases hk)
  have HS0 : Hid (SetsAt w1 w.heap.size w.heap.size m (liveOf l 0) (fun _ => 0) (fun _ => 18446744073709551615) ∧ Below w.heap.size w w1) := Lib.hid ⟨sets_start hh, hb1⟩
  clear hrow hgrow hh hb1 hi hz0 hz1 hz2
  go_wp2
  go_loopw [18] (fun i wr => ∃ (j : Nat) (Hf : Nat → Nat), i = .int .i64 (j : Int) ∧ j ≤ L ∧ Hid (SetsAt wr w.heap.size w.heap.size m (liveOf l j) Hf (fun _ => 18446744073709551615) ∧ Below w.heap.size w wr)) (fun i _ => L - (intOf i).toNat)
  case atStart => exact ⟨0, _, rfl, by omega, HS0⟩
  case round =>
    obtain ⟨j, Hf, rfl, hj, HS⟩ := hrel
    clear HS0
    by_cases hlt : j < L
    · have hi1 : (j : Int) < (L : Int) := by omega
      have hi0 : (0 : Int) ≤ (j : Int) := by omega
      have hjl : j < l.length := by rw [HLl.out]; exact hlt
      have hR := HRow.out wr HS.out.2
      have hc := hR.cell hjl
      have hgl := hR.lt
      have hz := HlR.out _ (List.getElem_mem hjl)
      have HV := Lib.hid (fun n h => live_succ (n := n) hjl h)
      obtain ⟨z, hzj⟩ : ∃ z, l[j] = z := ⟨_, rfl⟩
      rw [hzj] at hc hz
      obtain ⟨n, rfl⟩ := Int.eq_ofNat_of_zero_le hz.1
      have hn : n < m := by omega
      have hn1 : (n : Int) < (m : Int) := by omega
      have hn0 : (0 : Int) ≤ (n : Int) := by omega
      have HV2 := Lib.hid (HV.out n hzj)
      have HF := Lib.hid (fullSet_one (m : Int) (by omega) (by omega) wr)
      have hszr := HS.out.2.size
      clear HV hzj hR
      go_wp2_with fail
      refine HF.out.mono ?_
      rintro e w5 ⟨rfl, hs5, hb5⟩
      have hS5 := HS.out.1.s.below hb5 HS.out.1.s.lt
      have f5 := hS5.frozen n
      have l5 := hS5.lt
      have c5 := (HS.out.1.s.below hb5 HS.out.1.s.lt).cell n
      rw [List.getElem?_map, ss_get hn] at c5
      have HS2 : Hid (SetsAt (w5.setCell ⟨w.heap.size, n, none⟩ (.slice (some ⟨wr.heap.size, 0, none⟩) 1 1)) w.heap.size w.heap.size m (liveOf l (j + 1)) (updY Hf n wr.heap.size) (fun _ => 18446744073709551615) ∧ Below w.heap.size w (w5.setCell ⟨w.heap.size, n, none⟩ (.slice (some ⟨wr.heap.size, 0, none⟩) 1 1))) := Lib.hid (by
        have h := HS.out.1.push hb5 hszr hn hs5 (Nat.le_refl _)
        rw [full_upd, ← HV2.out] at h
        exact ⟨h, (HS.out.2.trans (hb5.mono hszr)).setCell (p := ⟨w.heap.size, n, none⟩) (Nat.le_refl _) _⟩)
      simp only [Option.map_some] at c5
      generalize setV _ = cv at c5
      clear HF hs5 hb5 hS5 HS HV2
      go_wp2
      go_roundw
      case rel => exact ⟨j + 1, _, by go_num, by omega, HS2⟩
      case measure => simp [intOf]; omega
    · have hjm : j = L := by omega
      subst hjm
      have HN := Lib.hid (newSet_one (m : Int) (by omega) (by omega) wr)
      go_wp2_with fail
      refine HN.out.mono ?_
      rintro e w3 ⟨rfl, hs3, hb3⟩
      have hol : Hid ((l.map Int.toNat).length = j) := Lib.hid (by rw [List.length_map]; exact HLl.out)
      have HR0 : Hid (Rnd w w3 w.heap.size wr.heap.size m next (liveOf l j) Hf (l.map Int.toNat) 0 0) := Lib.hid (Rnd.start HP.out (by rw [hol.out]; exact hL64) (SetL.start HS.out.1 HS.out.2 hs3 hb3))
      have HO : Hid (∀ (r : Nat) (h : r < l.length), ∃ n : Nat, l[r] = (n : Int) ∧ n < m ∧ (l.map Int.toNat)[r]? = some n ∧ n ∈ l.map Int.toNat ∧ liveOf l j n = true) := Lib.hid (by
        intro r hr
        have hz := HlR.out _ (List.getElem_mem hr)
        obtain ⟨n, hn⟩ := Int.eq_ofNat_of_zero_le hz.1
        have h1 : (l.map Int.toNat)[r]? = some n := by
          rw [List.getElem?_map, List.getElem?_eq_getElem hr, hn]
          rfl
        refine ⟨n, hn, by omega, h1, List.mem_of_getElem? h1, ?_⟩
        unfold liveOf
        rw [List.take_of_length_le (by rw [HLl.out]; exact Nat.le_refl _), ← hn]
        exact decide_eq_true (List.getElem_mem hr))
      have HLv : Hid (∀ k ∈ l.map Int.toNat, liveOf l j k = true) := Lib.hid (by
        intro k hk
        obtain ⟨r, hr, hrk⟩ := List.getElem_of_mem hk
        have hr2 : r < l.length := by simpa using hr
        obtain ⟨n, h1, h2, h3, h4, h5⟩ := HO.out r hr2
        rw [List.getElem?_eq_getElem hr, hrk] at h3
        injection h3 with h3
        exact h3 ▸ h5)
      have HLb : Hid (∀ k, liveOf l j k = true → k ∈ l.map Int.toNat) := Lib.hid (by
        intro k hk
        unfold liveOf at hk
        have := List.mem_of_mem_take (of_decide_eq_true hk)
        exact List.mem_map.2 ⟨_, this, by simp⟩)
      clear HN HS hs3 hb3 hlt hj
      go_wp2
      go_step3
      go_wp2
      generalize wr.heap.size = G at HR0 ⊢
      generalize hlv : liveOf l j = live at HP HR0 HO HLv HLb ⊢
      generalize hoo : l.map Int.toNat = o at hol HR0 HO HLv HLb
      have HLV := Lib.hid hlv
      clear hlv hoo
      go_loopw [11, 12] (fun a s wr => ∃ (c st : Nat), a = .int .i64 (c : Int) ∧ s = .int .i64 (st : Int) ∧ st < j ∧ st ≤ c ∧ c < 1000000 ∧ Hid (Rnd w wr w.heap.size G m next live Hf o c st)) (fun a _ _ => 1000000 - (intOf a).toNat)
      case atStart => exact ⟨0, 0, rfl, rfl, by omega, by omega, by omega, HR0⟩
      case round =>
        obtain ⟨c, st, rfl, rfl, hst, hstc, hc, HR⟩ := hrel
        clear HR0
        obtain ⟨ys, x, hd, hsp, hsy, hpt⟩ := HR.out.h
        have HD := Lib.hid hd
        have HSp := Lib.hid hsp
        have HSy := Lib.hid hsy
        have HPt := Lib.hid hpt
        have hrj : c % j < j := Nat.mod_lt _ (by omega)
        have hem : Hid (c % j = c % o.length) := Lib.hid (by rw [hol.out])
        have htm : (c : Int).tmod (j : Int) = ((c % j : Nat) : Int) := by rw [Int.tmod_eq_emod_of_nonneg (by omega)]; rfl
        have htm2 : (c : Int) % (j : Int) = ((c % j : Nat) : Int) := rfl
        generalize c % j = r at hrj hem htm htm2
        have hjp : (j : Int) > 0 := by omega
        have hjz : ((j : Int) == 0) = false := by simp; omega
        have hrw : IntKind.i64.wrap (r : Int) = (r : Int) := IntWalk.i64_in _ (by omega)
        have hr1 : (r : Int) < (j : Int) := by omega
        have hr0 : (0 : Int) ≤ (r : Int) := by omega
        have hrl : r < l.length := by rw [HLl.out]; exact hrj
        have hRow := HRow.out wr HD.out.b
        have hcr := hRow.cell hrl
        have hgl := hRow.lt
        obtain ⟨n, hln, hnm, hon, hno, hlv⟩ := HO.out r hrl
        rw [hln] at hcr
        have hn1 : (n : Int) < (m : Int) := by omega
        have hn0 : (0 : Int) ≤ (n : Int) := by omega
        have HLr := Lib.hid (HL.out wr HD.out.b)
        have hnl : n < Ls.length := by rw [HLn.out]; exact hnm
        have hcn := (HLr.out.n.cell n).trans (lst_get (m := m) hnl)
        have hln2 := HLr.out.n.lt
        have hrow := HLr.out.r _ (List.getElem_mem hnl)
        have hnx := HNx.out n hnl
        unfold lstV at hcn
        generalize Ls[n] = y at hcn hrow hnx
        obtain ⟨F, cF, zs⟩ := y
        simp only at hcn hrow hnx
        subst hnx
        have HM := Lib.hid (meet_one G F w.heap.size x 1 cF m (next n) (ssOf m live Hf ys) (by have := HP.out.nx.l n; omega) (by rw [ss_len]; omega) wr HD.out.g (HD.out.meetIn hrow (HP.out.nx.r n) HSp.out.lt))
        rw [ss_len] at HM
        have hon2 : Hid (o[c % o.length]? = some n) := Lib.hid (by rw [← hem.out]; exact hon)
        clear hd hsp hsy hpt hRow hrl hln hon hrow hnl HLr HR
        go_wp2_with fail
        refine HM.out.mono ?_
        rintro e w4 ⟨rfl, hg4, hk4⟩
        have HAd := Lib.hid (add_one G _ 1 n (by have := HP.out.m64; omega) w4 hg4 (meetV_lt _ _))
        have HD4 := Lib.hid (HD.out.now hk4 hg4)
        clear HM hg4 hk4 hcr hgl hcn hln2 htm htm2 hrw hjz
        go_wp2_with fail
        refine HAd.out.mono ?_
        rintro e w5 ⟨rfl, hg5, hk5⟩
        have HD5 : Hid (SetL w w5 w.heap.size G m live Hf ys (newY m live Hf ys next n)) := Lib.hid (HD4.out.now hk5 hg5)
        have HE := Lib.hid (equal_one G (Hf n) _ _ 1 1 w5 HD5.out.g (HD5.out.a.e n hnm hlv).1)
        have hcs := HD5.out.a.cell hnm
        rw [if_pos hlv] at hcs
        have hls := HD5.out.a.s.lt
        have hw1 : IntKind.i64.wrap ((st : Int) + 1) = (st : Int) + 1 := IntWalk.i64_in _ (by omega)
        have hwc : IntKind.i64.wrap ((c : Int) + 1) = (c : Int) + 1 := IntWalk.i64_in _ (by omega)
        clear HAd HD HD4 hg5 hk5
        go_wp2_with fail
        refine HE.out.mono ?_
        rintro e w6 ⟨rfl, hk6⟩
        have HD6 := Lib.hid (HD5.out.keeps hk6)
        clear HE HD5 hk6 hcs hls
        have hcs := HD6.out.a.cell hnm
        rw [if_pos hlv] at hcs
        have hls := HD6.out.a.s.lt
        by_cases heq : newY m live Hf ys next n = ys n
        · rw [decide_eq_true heq]
          have HR2 : Hid (Rnd w w6 w.heap.size G m next live Hf o (c + 1) (st + 1)) := Lib.hid (Rnd.same (by rw [hol.out]; exact hst) hon2.out HD6.out HSp.out HSy.out HPt.out heq)
          by_cases hend : st + 1 = j
          · have hb1 : ((st : Int) + 1 == (j : Int)) = true := by simp; omega
            have HF : Hid (Settled w next m (liveOf l j) (.returned (.slice (some ⟨w.heap.size, 0, none⟩) m m)) w6) := Lib.hid (by
              rw [HLV.out]
              have h := HR2.out
              rw [hend] at h
              exact Rnd.done (at' := c + 1) HP.out HLb.out (by rw [hol.out]; omega) (by rw [hol.out]; exact h))
            clear HR2 HD6 HSp HSy HPt heq
            go_wp2
            rw [Exit.noGoto_ret]
            go_ret
            exact HF.out
          · have hb1 : ((st : Int) + 1 == (j : Int)) = false := by simp; omega
            have hc2 : c + 1 < 1000000 := by
              obtain ⟨_, _, _, _, _, h⟩ := HR2.out.h
              rw [hol.out] at h
              omega
            clear HD6 HSp HSy HPt heq
            go_wp2
            go_roundw
            case rel => exact ⟨c + 1, st + 1, by go_num, by go_num, by omega, by omega, hc2, HR2⟩
            case measure => simp [intOf]; omega
        · rw [decide_eq_false heq]
          have HR2 : Hid (Rnd w (w6.setRow (Hf n) #[.int .u64 (newY m live Hf ys next n : Int)]) w.heap.size G m next live Hf o (c + 1) 0) := Lib.hid (Rnd.less HP.out HLv.out hno HD6.out HSp.out HPt.out heq)
          have hc2 : c + 1 < 1000000 := by
            obtain ⟨_, _, _, _, _, h⟩ := HR2.out.h
            rw [hol.out] at h
            omega
          have hgG := HD6.out.g
          have hgH := (HD6.out.a.e n hnm hlv).1
          have HG0 := Lib.hid (hgG.cell 0)
          have HH0 : Hid (w6.heap[Hf n]? = some (.cells #[.int .u64 (ys n : Int)] 84 (0, 0))) := Lib.hid hgH
          generalize newY m live Hf ys next n = Y at HR2 HG0
          clear HD6 HSp HSy HPt heq hgG hgH
          go_wp2_with (with_reducible refine wpList_copy_own rfl (.tmp 65) (.tmp 66) 54 54 rfl 84 Tryd.underlying54 (by kernel_rfl) (Hf n) 0 1 1 ⟨G, 0, none⟩ 1 1 rfl rfl _ _ HH0.out [.int .u64 (Y : Int)] rfl ?src ?fit ?one ?_)
          case src =>
            intro i v hv
            have hi := (List.getElem?_eq_some_iff.1 hv).1
            simp at hi
            subst hi
            rw [fl_at]
            exact HG0.out.trans hv
          case fit => simp
          case one => intro v hv; simp at hv; rw [hv]; rfl
          go_roundw
          case rel => exact ⟨c + 1, 0, by go_num, rfl, by omega, by omega, hc2, HR2⟩
          case measure => simp [intOf]; omega
end FlowD
end Go.Proofs.YtajhkogknpmnbaaDoor
namespace Go.Proofs.YtajhkogknpmnbaaDoor
open Go.RowKit ObjM
namespace FlowD
open FlowM PopM

theorem settled_none {w w1 w3 : World} {next : Nat → List Int} {m : Nat} (hh : Has w1 w.heap.size 54 (List.replicate m (.slice none 0 0))) (hb1 : Below w.heap.size w w1) (hb3 : Below w1.heap.size w1 w3) : Settled w next m (liveOf [] 0) (.returned (.slice (some ⟨w.heap.size, 0, none⟩) m m)) w3 := by
  have h0 : ∀ q, liveOf [] 0 q = false := fun q => by simp [liveOf]
  have h1 := (sets_start (w := w) (l := []) hh).keeps (Keeps.below' hb3 []) (by simp) (fun q hq hl => by simp)
  exact ⟨_, _, _, rfl, h1, fun n _ hn => absurd hn (by rw [h0]; simp), fun n hn => absurd hn (by rw [h0]; simp), hb1.trans (hb3.mono hb1.size)⟩
set_option maxRecDepth 100000 in
set_option maxHeartbeats 16000000 in
theorem settle_none (m : Nat) (a : Option Addr) (cp : Nat) (nv : Value) (next : Nat → List Int) (w : World) (hm1 : 1 ≤ m) (hm64 : m ≤ 64) :
    Calls Tryd.prog 27 #[nv, .slice a 0 cp, .int .i64 (m : Int)] w (Settled w next m (liveOf [] 0)) := by
  obtain ⟨i0, hi, hz0, hz1, hz2⟩ := info_sets
  go_enter Tryd.func27, Tryd.ntmps27
  go_wp2
  go_step3
  go_wp2_with (at_make; refine wpList_make_full _ rfl _ _ 51 rfl w.heap.size 54 i0 (.slice none 0 0) 1 Tryd.underlying51 hi hz0 hz1 .i64 .i64 (m : Int) (m : Int) m rfl rfl rfl rfl ?c1 ?c2 ?c3 ?_)
  case c1 => rw [hz2]; omega
  case c2 => unfold maxLen; omega
  case c3 => exact Nat.le_refl _
  intro w1 hrow hgrow
  have hh := made_has hrow
  have hb1 : Below w.heap.size w w1 := (Below.refl _ w).grown hgrow (Nat.le_refl _) (fun k hk => by cases hk)
  have HE : Hid (∀ w3, Below w1.heap.size w1 w3 → Settled w next m (liveOf [] 0) (.returned (.slice (some ⟨w.heap.size, 0, none⟩) m m)) w3) := Lib.hid fun w3 hb3 => settled_none hh hb1 hb3
  clear hrow hgrow hh hb1 hi hz0 hz1 hz2
  go_wp2
  go_loopw [18] (fun i wr => i = .int .i64 0 ∧ w1 = wr) (fun _ _ => 0)
  case atStart => exact ⟨rfl, rfl⟩
  case round =>
    obtain ⟨rfl, rfl⟩ := hrel
    have HN := Lib.hid (newSet_one (m : Int) (by omega) (by omega) w1)
    go_wp2_with fail
    refine HN.out.mono ?_
    rintro e w3 ⟨rfl, hs3, hb3⟩
    have HF := Lib.hid (HE.out w3 hb3)
    clear HE hs3 hb3 HN
    go_wp2
    go_step3
    go_wp2
    go_loopw [11, 12] (fun a s wr => a = .int .i64 0 ∧ s = .int .i64 0 ∧ w3 = wr) (fun _ _ _ => 0)
    case atStart => exact ⟨rfl, rfl, rfl⟩
    case round =>
      obtain ⟨rfl, rfl, rfl⟩ := hrel
      go_wp2
      rw [Exit.noGoto_ret]
      go_ret
      exact HF.out
/-- Whatever leads to the end. -/
theorem settle_any (N m : Nat) (v : Value) (Ls : List (Nat × Nat × List Int)) (next : Nat → List Int) (l : List Int) (w : World) (hP : LiveP next m (liveOf l l.length)) (hm1 : 1 ≤ m) (hL : ListsTo w N m Ls) (hlen : Ls.length = m) (hnx : ∀ (i : Nat) (h : i < Ls.length), Ls[i].2.2 = next i) (hv : (l = [] ∧ v = .slice none 0 0) ∨ ∃ g cap, v = .slice (some ⟨g, 0, none⟩) l.length cap ∧ RowAt w g l) (hnd : l.Nodup) (hl : ∀ z ∈ l, 0 ≤ z ∧ z < m) :
    Calls Tryd.prog 27 #[.slice (some ⟨N, 0, none⟩) m m, v, .int .i64 (m : Int)] w (Settled w next m (liveOf l l.length)) := by
  rcases hv with ⟨rfl, rfl⟩ | ⟨g, cap, rfl, hr⟩
  · exact settle_none m _ _ _ next w hm1 hP.m64
  · cases l with
    | nil => exact settle_none m _ _ _ next w hm1 hP.m64
    | cons z r => exact settle_some N m g cap Ls next (z :: r) w hP hm1 hL hlen hnx hr hnd hl (by simp)
end FlowD
end Go.Proofs.YtajhkogknpmnbaaDoor
