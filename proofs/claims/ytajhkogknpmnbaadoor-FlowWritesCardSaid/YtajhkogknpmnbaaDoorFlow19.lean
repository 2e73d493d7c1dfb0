/- From which places a way leads to the end: the walk. -/
import Derived.Test.YtajhkogknpmnbaaDoorFlowH
import Derived.Deep.RegionLaw
namespace Go.Proofs.YtajhkogknpmnbaaDoor
open Go.RowKit ObjM
namespace FlowD
open FlowM

/-- What the lists of all places are. -/
structure Nx (next : Nat → List Int) (m : Nat) : Prop where
  r : ∀ n z, z ∈ next n → z = -1 ∨ 0 ≤ z ∧ z < m
  l : ∀ n, (next n).length ≤ 2
  o : ∀ n, m ≤ n → next n = []
theorem endS_start {w w1 : World} {m : Nat} {next : Nat → List Int} {X : Nat} (hh : Has w1 w.heap.size 26 (List.replicate m (.slice none 0 0))) (hx : Has w1 X 48 [.slice (some ⟨w.heap.size, 0, none⟩) m m]) (hb : Below w.heap.size w w1) : EndS w w1 X m next 0 [] (.slice none 0 0) := by
  refine ⟨[], _, fun _ => [], ⟨hx, hh, by simp, World.ownsRow_nil _ _ _ _, ?_, ?_, ?_, Nat.le_refl _⟩, endP_start next m, hb⟩
  · intro i v hi
    rw [List.getElem?_replicate] at hi
    split at hi
    · injection hi with hi
      subst hi
      exact World.ownsRow_nil _ _ _ _
    · cases hi
  · intro i v hi g hg
    rw [List.getElem?_replicate] at hi
    split at hi
    · injection hi with hi
      subst hi
      cases hg
    · cases hi
  · intro i j u v hi hj hij g hg
    rw [List.getElem?_replicate] at hi
    split at hi
    · injection hi with hi
      subst hi
      cases hg
    · cases hi
theorem EndS.shape {w wr : World} {X m : Nat} {next : Nat → List Int} {n : Nat} {done : List Int} {vl : Value} (h : EndS w wr X m next n done vl) : ∃ a k c, vl = .slice a k c := by
  obtain ⟨la, vs, ah, h1, _⟩ := h
  exact own_slice_of h1.o
theorem EndS.x {w wr : World} {X m : Nat} {next : Nat → List Int} {n : Nat} {done : List Int} {vl : Value} (h : EndS w wr X m next n done vl) : wr.cell? ⟨X, 0, none⟩ = some (.slice (some ⟨w.heap.size, 0, none⟩) m m) ∧ X < wr.heap.size ∧ Below w.heap.size w wr := by
  obtain ⟨la, vs, ah, h1, _, h3⟩ := h
  exact ⟨by simpa using h1.x.cell 0, h1.x.lt, h3⟩
theorem EndS.a {w wr : World} {X m : Nat} {next : Nat → List Int} {n : Nat} {done : List Int} {vl : Value} (h : EndS w wr X m next n done vl) : w.heap.size < wr.heap.size := by
  obtain ⟨la, vs, ah, h1, _, h3⟩ := h
  exact h1.a.lt
theorem EndS.row {w wr : World} {X m : Nat} {next : Nat → List Int} {n : Nat} {vl : Value} (h : EndS w wr X m next n (next n) vl) (hl : (next n).length ≤ 2) : EndS w wr X m next (n + 1) [] vl := by
  obtain ⟨la, vs, ah, h1, h2, h3⟩ := h
  exact ⟨la, vs, ah, h1, h2.row hl, h3⟩
/-- What spreading over the ways turned round finds. -/
theorem endS_spread {w wr : World} {X m : Nat} {next : Nat → List Int} {vl : Value} (hm : m ≤ 64) (hN : Nx next m) (h : EndS w wr X m next m [] vl) {w2 : World} (hs : SetAt w2 wr.heap.size 0) (hb : Below wr.heap.size wr w2) :
    Calls Tryd.prog 31 #[vl, .slice (some ⟨wr.heap.size, 0, none⟩) 1 1, .func (.func 50) #[] #[.pointer (some ⟨X, 0, none⟩)]] w2 fun e w' => ∃ v, e = .returned v ∧ Hid (EndIs w next m (.returned v) w') := by
  obtain ⟨la, vs, ah, h1, h2, h3⟩ := h
  have hah : ∀ n, m ≤ n → ah n = [] := by
    intro n hn
    cases e : ah n with
    | nil => rfl
    | cons z r =>
      have hz : z ∈ ah n := by rw [e]; exact List.mem_cons_self
      have hb := h2.ba n z hz
      obtain ⟨q, rfl⟩ := Int.eq_ofNat_of_zero_le hb.1
      rcases (h2.a q n).1 hz with ⟨_, h4⟩ | ⟨_, h4⟩
      · have := hN.r q _ h4
        omega
      · cases h4
  have hlt := hs.lt
  have hX := h1.x.below hb h1.x.lt
  have hA := h1.a.below hb h1.a.lt
  have hvl : Hands 0 w2 wr.heap.size vl la := by
    rcases row_of_own h1.o with ⟨h4, h5⟩ | ⟨g, cap, h4, h5, h6⟩
    · exact .inl ⟨h5, h4⟩
    · exact .inr ⟨g, cap, h4, h6.below hb h6.lt, .inr (Nat.zero_le _)⟩
  refine (spread_end X wr.heap.size 0 m hm vl la ah w2 hlt hs (by decide) hvl (by have := h2.sl; simp at this; omega) (fun z hz => .inr (h2.bl z hz)) (fun n _ => ⟨by have := h2.sa n; simp at this; omega, fun z hz => .inr (h2.ba n z hz)⟩) ?_).mono ?_
  · intro n W hn hW hsz
    have hv : vs[n]? = some (vs[n]'(by rw [h1.len]; exact hn)) := List.getElem?_eq_getElem _
    generalize vs[n]'(by rw [h1.len]; exact hn) = v at hv
    refine (ahead_any X w.heap.size m n v vs W (hX.below hW h1.x.lt) (hA.below hW h1.a.lt) h1.len hv).mono ?_
    rintro e w' ⟨rfl, rfl⟩
    refine ⟨v, rfl, ?_, Below.refl _ _⟩
    rcases row_of_own (h1.r n v hv) with ⟨h4, h5⟩ | ⟨g, cap, h4, h5, h6⟩
    · exact .inl ⟨h5, h4⟩
    · exact .inr ⟨g, cap, h4, (h6.below hb h6.lt).below hW h6.lt, .inl h6.lt⟩
  · rintro e w' ⟨v, st, rfl, ho, hsp, hli, hb2⟩
    refine ⟨v, rfl, Lib.hid ⟨v, st.2, rfl, own_base ho h3.size, hsp.s.nodup, fun z hz => ⟨(hsp.s.pos z hz).1, hli z hz⟩, fun x => end_live hm hN.r hN.o h2 hsp x, ?_⟩⟩
    exact h3.trans ((hb.trans hb2).mono h3.size)
set_option maxRecDepth 100000 in
set_option maxHeartbeats 16000000 in
theorem fromEnd_any (N m : Nat) (Ls : List (Nat × Nat × List Int)) (next : Nat → List Int) (w : World) (hm : m ≤ 64) (hm1 : 1 ≤ m) (hL : ListsTo w N m Ls) (hlen : Ls.length = m) (hnx : ∀ (i : Nat) (h : i < Ls.length), Ls[i].2.2 = next i) (hN : Nx next m) :
    Calls Tryd.prog 26 #[.slice (some ⟨N, 0, none⟩) m m] w (EndIs w next m) := by
  obtain ⟨i0, hi, hz0, hz1, hz2⟩ := info_rows
  have HL := Lib.hid (fun (W : World) (hb : Below w.heap.size w W) => hL.below hb hL.n.lt (Nat.le_refl _))
  have HLn := Lib.hid hlen
  have HNx := Lib.hid hnx
  have HN := Lib.hid hN
  clear hL hlen hnx hN
  go_enter Tryd.func26, Tryd.ntmps26
  go_wp2_with (at_make; refine wpList_make_full _ rfl _ _ 48 rfl w.heap.size 26 i0 (.slice none 0 0) 1 Tryd.underlying48 hi hz0 hz1 .i64 .i64 (m : Int) (m : Int) m rfl rfl rfl rfl ?c1 ?c2 ?c3 ?_)
  case c1 => rw [hz2]; omega
  case c2 => unfold maxLen; omega
  case c3 => exact Nat.le_refl _
  intro w1 hrow hgrow
  have hh := made_has hrow
  have hb1 : Below w.heap.size w w1 := (Below.refl _ w).grown hgrow (Nat.le_refl _) (fun k hk => by cases hk)
  have hX := Has.new w1 48 [.slice (some ⟨w.heap.size, 0, none⟩) m m]
  have k1 : Keeps [] w1 (w1.alloc (.cells #[.slice (some ⟨w.heap.size, 0, none⟩) m m] 48)) := Keeps.alloc [] w1 _
  have HS0 : Hid (EndS w (w1.alloc (.cells #[.slice (some ⟨w.heap.size, 0, none⟩) m m] 48)) w1.heap.size m next 0 [] (.slice none 0 0)) := Lib.hid (endS_start (hh.keeps k1 (by simp)) hX (hb1.trans (k1.toBelow w.heap.size hb1.size (by simp))))
  clear hrow hgrow hh hb1 hX k1 hi hz0 hz1 hz2
  go_wp2
  go_loopw [14, 4] (fun i lv wr => ∃ (n : Nat) (vl : Value), i = .int .i64 (n : Int) ∧ vl = lv ∧ n ≤ m ∧ Hid (EndS w wr w1.heap.size m next n [] vl)) (fun i _ _ => m - (intOf i).toNat)
  case atStart => exact ⟨0, _, rfl, rfl, by omega, HS0⟩
  case round =>
    obtain ⟨n, vl, rfl, rfl, hn, HS⟩ := hrel
    clear HS0
    generalize w1.heap.size = X at HS ⊢
    have HLr := Lib.hid (HL.out wr HS.out.x.2.2)
    by_cases hlt : n < m
    · have hi1 : (n : Int) < (m : Int) := by omega
      have hi0 : (0 : Int) ≤ (n : Int) := by omega
      have hnl : n < Ls.length := by rw [HLn.out]; exact hlt
      have hcn := (HLr.out.n.cell n).trans (lst_get (m := m) hnl)
      have hln := HLr.out.n.lt
      have HRow : Hid (∀ W, Below w.heap.size w W → RowAt W Ls[n].1 Ls[n].2.2) := Lib.hid fun W hW => (HL.out W hW).r _ (List.getElem_mem hnl)
      have hnx := HNx.out n hnl
      have hl2 := HN.out.l n
      have HRn := Lib.hid (HN.out.r n)
      unfold lstV at hcn
      generalize Ls[n] = x at hcn hnx HRow
      obtain ⟨F, cF, zs⟩ := x
      simp only at hcn hnx HRow
      subst hnx
      have HS1 : Hid (EndS w wr X m next n ((next n).take 0) vl) := Lib.hid HS.out
      obtain ⟨q, hq⟩ : ∃ q, (next n).length = q := ⟨_, rfl⟩
      have HQ := Lib.hid hq
      rw [hq] at hcn hl2
      clear HS HLr hnl hq
      go_wp2
      go_loopw [21, 4] (fun i lv wr2 => ∃ (j : Nat) (vl : Value), i = .int .i64 (j : Int) ∧ vl = lv ∧ j ≤ q ∧ Hid (EndS w wr2 X m next n ((next n).take j) vl)) (fun i _ _ => q - (intOf i).toNat)
      case atStart => exact ⟨0, _, rfl, rfl, by omega, HS1⟩
      case round =>
        obtain ⟨j, vl2, rfl, rfl, hj, HS⟩ := hrel
        clear HS1 hcn hln
        by_cases hjq : j < q
        · have hj1 : (j : Int) < (q : Int) := by omega
          have hj0 : (0 : Int) ≤ (j : Int) := by omega
          have hjl : j < (next n).length := by rw [HQ.out]; exact hjq
          have hR := HRow.out wr HS.out.x.2.2
          have hc := hR.cell hjl
          have hlF := hR.lt
          have hz := HRn.out _ (List.getElem_mem hjl)
          have HT : Hid ((next n).take (j + 1) = (next n).take j ++ [(next n)[j]]) := Lib.hid (List.take_succ_eq_append_getElem hjl)
          have hdl : Hid (((next n).take j).length ≤ 2) := Lib.hid (by rw [List.length_take]; omega)
          generalize (next n)[j] = z at hc hz HT
          obtain ⟨a2, n2, c2, rfl⟩ := HS.out.shape
          clear hR
          by_cases hz1 : z = -1
          · subst hz1
            obtain ⟨v3, W3, hrun, HS3⟩ := endS_last HS.out hlt hm hdl.out
            have HRun := Lib.hid hrun
            rw [← HT.out] at HS3
            clear HS HT hdl hrun
            go_wp2_with (at_builtin; refine wpList_append_run (by rfl) (.tmp 27) (.tmp 29) 26 rfl _ _ _ _ rfl rfl HRun.out ?_)
            go_roundw
            case rel => exact ⟨j + 1, _, by go_num, rfl, by omega, HS3⟩
            case measure => simp [intOf]; omega
          · obtain ⟨p, rfl⟩ := Int.eq_ofNat_of_zero_le (show 0 ≤ z by omega)
            have hp : p < m := by omega
            have hb1 : ((p : Int) == -1) = false := by simp
            have hp1 : (p : Int) < (m : Int) := by omega
            have hp0 : (0 : Int) ≤ (p : Int) := by omega
            obtain ⟨x0, x0l, -⟩ := HS.out.x
            have al := HS.out.a
            obtain ⟨v, va, vn, vc, hsh, ca, hrun⟩ := endS_put HS.out hlt hp hm hdl.out
            obtain rfl := hsh.out
            have HRun := Lib.hid hrun
            have x0d : wr.drew.cell? ⟨X, 0, none⟩ = some (.slice (some ⟨w.heap.size, 0, none⟩) m m) := x0
            have cad : wr.drew.cell? ⟨w.heap.size, p, none⟩ = some (.slice va vn vc) := ca
            rw [← HT.out] at HRun
            clear HS HT hdl hrun hsh
            go_wp2
            go_region_law (refine step_append_ex rfl (.tmp 36) (.tmp 38) 26 rfl _ _ rfl rfl _ HRun.out ?_
                           rintro v3 W3 ⟨HS3, ⟨a3, n3, c3, rfl⟩, y0, y0l, ya, yal, yf⟩)
            all_goals
              go_wp2
              go_roundw
              case rel => exact ⟨j + 1, _, by go_num, rfl, by omega, HS3⟩
              case measure => simp [intOf]; omega
        · have hjm : j = q := by omega
          subst hjm
          have hT : (next n).take j = next n := List.take_of_length_le (by rw [HQ.out]; exact Nat.le_refl _)
          have HS2 : Hid (EndS w wr X m next (n + 1) [] vl2) := Lib.hid (by
            have h := HS.out
            rw [hT] at h
            exact h.row (by rw [HQ.out]; exact hl2))
          clear HS hT
          go_wp2
          go_roundw
          case rel => exact ⟨n + 1, _, by go_num, rfl, by omega, HS2⟩
          case measure => simp [intOf]; omega
    · have hnm : n = m := by omega
      subst hnm
      have HSn := Lib.hid (newSet_one (n : Int) (by omega) (by omega) wr)
      have HSp := Lib.hid (fun (w2 : World) (hs : SetAt w2 wr.heap.size 0) (hb : Below wr.heap.size wr w2) => endS_spread hm HN.out HS.out hs hb)
      clear HLr HS
      go_wp2_with fail
      refine HSn.out.mono ?_
      rintro e w2 ⟨rfl, hs2, hb2⟩
      have HC := Lib.hid (HSp.out w2 hs2 hb2)
      clear HSn HSp hs2 hb2
      go_wp2_with fail
      refine HC.out.mono ?_
      rintro e w3 ⟨v, rfl, HE⟩
      clear HC
      go_wp2
      go_ret
      exact HE.out
end FlowD
end Go.Proofs.YtajhkogknpmnbaaDoor
