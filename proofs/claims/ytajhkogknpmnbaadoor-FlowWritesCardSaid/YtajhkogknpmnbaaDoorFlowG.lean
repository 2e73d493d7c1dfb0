/- Spreading, walked: from a word. -/
import Derived.Test.YtajhkogknpmnbaaDoorFlowF
namespace Go.Proofs.YtajhkogknpmnbaaDoor
open Go.RowKit ObjM
namespace FlowD
open FlowM

set_option maxRecDepth 100000 in
set_option maxHeartbeats 16000000 in
theorem spread_reach (bx G s0 lim : Nat) (hlim : lim ≤ 64) (a : Value) (start : List Int) (next : Nat → List Int) (w : World) (hG : G < w.heap.size) (hs : SetAt w G s0) (hx : s0 < LabelM.M64) (ha : Hands 0 w G a start) (hsl : start.length ≤ 1000) (hr : ∀ z ∈ start, z = -1 ∨ 0 ≤ z ∧ z < lim)
    (hn : ∀ n : Nat, n < lim → (next n).length ≤ 1000 ∧ ∀ z ∈ next n, z = -1 ∨ 0 ≤ z ∧ z < lim)
    (HC : ∀ (n : Nat) (W : World), n < lim → Below G w W → w.heap.size ≤ W.heap.size → Calls Tryd.prog 33 #[.int .i64 (n : Int), .pointer (some ⟨bx, 0, none⟩)] W fun e W' => ∃ b, e = .returned b ∧ Hands W.heap.size W' G b (next n) ∧ Below W.heap.size W W') :
    Calls Tryd.prog 31 #[a, .slice (some ⟨G, 0, none⟩) 1 1, .func (.func 33) #[] #[.pointer (some ⟨bx, 0, none⟩)]] w fun e w' => ∃ v st, e = .returned v ∧ w'.ownsRow G 3 1 v st.2.length (st.2.map (Value.int .i64)) ∧ Spd next start s0 st st.2.length ∧ (∀ z ∈ st.2, z < lim) ∧ Below G w w' := by
  have wide : ∀ {zs : List Int}, (∀ z ∈ zs, z = -1 ∨ 0 ≤ z ∧ z < lim) → ∀ z ∈ zs, z = -1 ∨ 0 ≤ z ∧ z < 64 := fun h z hz => (h z hz).imp id (fun h => ⟨h.1, by omega⟩)
  have hst0 : Hid (∀ z ∈ (moreF (s0, []) start).2, z < lim) := Lib.hid fun z hz => by
    have hp := (spr_more (spr_start s0) (wide hr)).pos z hz
    rcases more_only hz with h | h
    · simp at h
    · have := hr z h
      omega
  have ht := Has.new w 54 [.slice (some ⟨G, 0, none⟩) 1 1]
  have k1 : Keeps [] w (w.alloc (.cells #[.slice (some ⟨G, 0, none⟩) 1 1] 54)) := Keeps.alloc [] w _
  have hl := Has.new (w.alloc (.cells #[.slice (some ⟨G, 0, none⟩) 1 1] 54)) 26 [.slice none 0 0]
  have k2 : Keeps [] (w.alloc (.cells #[.slice (some ⟨G, 0, none⟩) 1 1] 54)) ((w.alloc (.cells #[.slice (some ⟨G, 0, none⟩) 1 1] 54)).alloc (.cells #[.slice none 0 0] 26)) := Keeps.alloc [] _ _
  have k3 := k1.trans k2 (by simp)
  rw [World.size_alloc] at hl
  have h0 : SpA ((w.alloc (.cells #[.slice (some ⟨G, 0, none⟩) 1 1] 54)).alloc (.cells #[.slice none 0 0] 26)) G w.heap.size G (w.heap.size + 1) (.slice none 0 0) (s0, []) :=
    ⟨ht.keeps k2 (by simp), Has.keeps hs k3 (by simp), hx, hl, World.ownsRow_nil _ _ _ _, Nat.le_refl _, by omega⟩
  have hb0 : Below G w ((w.alloc (.cells #[.slice (some ⟨G, 0, none⟩) 1 1] 54)).alloc (.cells #[.slice none 0 0] 26)) := k3.toBelow G (by omega) (by simp)
  have ha2 : Hands 0 ((w.alloc (.cells #[.slice (some ⟨G, 0, none⟩) 1 1] 54)).alloc (.cells #[.slice none 0 0] 26)) G a start := by
    rcases ha with h | ⟨F, c, h1, h2, h3⟩
    · exact .inl h
    · exact .inr ⟨F, c, h1, h2.keeps k3 (by simp), h3⟩
  have HM := Lib.hid (more_all G w.heap.size G (w.heap.size + 1) (.slice none 0 0) a (s0, []) start hsl (by simp) (wide hr) _ (Nat.le_trans (by omega) hb0.size) h0 ha2 (.inl rfl))
  have HB0 := Lib.hid hb0
  have HS := Lib.hid (spd_start (next := next) (start := start) (s0 := s0) (wide hr))
  have HCn := Lib.hid HC
  have HNx := Lib.hid hn
  clear ht k1 hl k2 k3 h0 hb0 ha2 ha hs hx hsl hr HC hn
  go_enter Tryd.func31, Tryd.ntmps31
  go_wp2_with fail
  refine HM.out.mono ?_
  rintro e w1 ⟨rfl, v1, hsp1, hb1⟩
  have HD0 : Hid (SpA w1 G w.heap.size G (w.heap.size + 1) v1 (moreF (s0, []) start) ∧ Spd next start s0 (moreF (s0, []) start) 0 ∧ Below G w w1) := Lib.hid ⟨hsp1, HS.out, HB0.out.trans hb1⟩
  have hsz1 : w.heap.size ≤ w1.heap.size := HD0.out.2.2.size
  have c1 := hsp1.l.cell 0
  have l1 := hsp1.l.lt
  simp only [List.getElem?_cons_zero] at c1
  have hlen1 : ∃ a1 n1 cp1, v1 = .slice a1 n1 cp1 := by
    rcases hsp1.shape with ⟨rfl, _⟩ | ⟨g, cap, rfl, _⟩
    · exact ⟨_, _, _, rfl⟩
    · exact ⟨_, _, _, rfl⟩
  obtain ⟨a1, n1, cp1, rfl⟩ := hlen1
  clear HM HB0 HS hsp1 hb1
  go_wp2
  go_loopw [9] (fun i wr => ∃ (j : Nat) (v : Value) (st : Nat × List Int), i = .int .i64 (j : Int) ∧ j ≤ st.2.length ∧ st.2.length ≤ 64 ∧ Hid (∀ z ∈ st.2, z < lim) ∧ Hid (SpA wr G w.heap.size G (w.heap.size + 1) v st ∧ Spd next start s0 st j ∧ Below G w wr)) (fun i _ => 64 - (intOf i).toNat)
  case atStart => exact ⟨0, _, _, rfl, by omega, HD0.out.2.1.s.len, hst0, HD0⟩
  case round =>
    obtain ⟨j, v, st, rfl, hj, hj64, HLm, HD⟩ := hrel
    clear HD0 c1 l1 hsz1 hst0
    have hszr : w.heap.size ≤ wr.heap.size := HD.out.2.2.size
    have c1 := HD.out.1.l.cell 0
    have l1 := HD.out.1.l.lt
    simp only [List.getElem?_cons_zero] at c1
    by_cases hlt : j < st.2.length
    · rcases HD.out.1.shape with ⟨_, h9⟩ | ⟨g, cap, rfl, hg, hgl, hrow⟩
      · rw [h9] at hlt
        simp at hlt
      · have hc := hrow.cell hlt
        have hz := HD.out.2.1.s.pos _ (List.getElem_mem hlt)
        have HE : Hid (∀ n : Nat, st.2[j] = (n : Int) → n < lim → Spd next start s0 (moreF st (next n)) (j + 1)) := Lib.hid fun n h1 h2 => spd_step HD.out.2.1 hlt h1 (wide (HNx.out n h2).2)
        have hzl := HLm.out _ (List.getElem_mem hlt)
        obtain ⟨z, hzz⟩ : ∃ z, st.2[j] = z := ⟨_, rfl⟩
        rw [hzz] at hc hz HE hzl
        obtain ⟨n, rfl⟩ := Int.eq_ofNat_of_zero_le hz.1
        have hn64 : n < lim := by omega
        have HE2 := Lib.hid (HE.out n rfl hn64)
        have HK := Lib.hid (HCn.out n wr hn64 HD.out.2.2 hszr)
        obtain ⟨m, hm⟩ : ∃ m, st.2.length = m := ⟨_, rfl⟩
        have HMm := Lib.hid hm
        rw [hm] at c1 hlt hj hj64
        have hi1 : (j : Int) < (m : Int) := by omega
        have hi0 : (0 : Int) ≤ (j : Int) := by omega
        have hslot := hm
        clear HE hrow hz hzz hm hslot hzl
        try rw [HMm.out]
        go_wp2_with fail
        refine HK.out.mono ?_
        rintro e w3 ⟨b, rfl, hh3, hb3⟩
        have h3 := HD.out.1.keeps (Keeps.below' hb3 [])
        have HM2 := Lib.hid (more_all G w.heap.size G (w.heap.size + 1) _ b st (next n) (HNx.out n hn64).1 (by have := HMm.out; omega) (wide (HNx.out n hn64).2) w3 (Nat.le_trans (Nat.le_trans (Nat.le_of_lt hG) hszr) hb3.size) h3 hh3 (.inr (fun g' hg' => (own_lt HD.out.1.o g' hg').2)))
        have HB3 : Hid (Below G w w3) := Lib.hid (HD.out.2.2.trans (hb3.mono (Nat.le_trans (Nat.le_of_lt hG) hszr)))
        clear HK hh3 hb3 h3 hc hgl hg c1 l1
        go_wp2_with fail
        refine HM2.out.mono ?_
        rintro e w4 ⟨rfl, v4, hsp4, hb4⟩
        have HD4 : Hid (SpA w4 G w.heap.size G (w.heap.size + 1) v4 (moreF st (next n)) ∧ Spd next start s0 (moreF st (next n)) (j + 1) ∧ Below G w w4) := Lib.hid ⟨hsp4, HE2.out, HB3.out.trans hb4⟩
        have hl4 : (moreF st (next n)).2.length ≤ 64 := HE2.out.s.len
        have HL4 : Hid (∀ z ∈ (moreF st (next n)).2, z < lim) := Lib.hid fun z hz => by
          have hp := HE2.out.s.pos z hz
          rcases more_only hz with h | h
          · exact HLm.out z h
          · have := (HNx.out n hn64).2 z h
            omega
        have hj4 : j + 1 ≤ (moreF st (next n)).2.length := Nat.le_trans (by rw [← HMm.out] at hlt; exact hlt) (more_pre (zs := next n) st).length_le
        clear HM2 HB3 HD hsp4 hb4
        go_wp2
        go_roundw
        case rel => exact ⟨j + 1, v4, _, by go_num, hj4, hl4, HL4, HD4⟩
        case measure => simp [intOf]; omega
    · have hjm : j = st.2.length := by omega
      have HF : Hid (wr.ownsRow G 3 1 v st.2.length (st.2.map (Value.int .i64)) ∧ Spd next start s0 st st.2.length ∧ (∀ z ∈ st.2, z < lim) ∧ Below G w wr) := Lib.hid ⟨HD.out.1.o, hjm ▸ HD.out.2.1, HLm.out, HD.out.2.2⟩
      rcases HD.out.1.shape with ⟨rfl, h9⟩ | ⟨g, cap, rfl, hg, hgl, hrow⟩
      · have hj0 : j = 0 := by rw [hjm, h9]; rfl
        subst hj0
        clear HD hjm h9 hlt hj
        go_wp2
        go_ret
        exact ⟨_, st, rfl, HF.out⟩
      · obtain ⟨m, hm⟩ : ∃ m, st.2.length = m := ⟨_, rfl⟩
        have HMm := Lib.hid hm
        have HF2 : Hid (wr.ownsRow G 3 1 (.slice (some ⟨g, 0, none⟩) m cap) st.2.length (st.2.map (Value.int .i64)) ∧ Spd next start s0 st st.2.length ∧ (∀ z ∈ st.2, z < lim) ∧ Below G w wr) := Lib.hid (by rw [← hm]; exact HF.out)
        rw [hm] at c1 hlt hj hj64 hjm
        subst hjm
        have hi1 : ¬ ((j : Int) < (j : Int)) := by omega
        clear HF HD hrow hg hgl hm
        go_wp2
        go_ret
        exact ⟨_, rfl, st.1, st.2, HF2.out⟩
end FlowD
end Go.Proofs.YtajhkogknpmnbaaDoor
namespace Go.Proofs.YtajhkogknpmnbaaDoor
open Go.RowKit ObjM
namespace FlowD
open FlowM

set_option maxRecDepth 100000 in
set_option maxHeartbeats 16000000 in
theorem spread_end (bx G s0 lim : Nat) (hlim : lim ≤ 64) (a : Value) (start : List Int) (next : Nat → List Int) (w : World) (hG : G < w.heap.size) (hs : SetAt w G s0) (hx : s0 < LabelM.M64) (ha : Hands 0 w G a start) (hsl : start.length ≤ 1000) (hr : ∀ z ∈ start, z = -1 ∨ 0 ≤ z ∧ z < lim)
    (hn : ∀ n : Nat, n < lim → (next n).length ≤ 1000 ∧ ∀ z ∈ next n, z = -1 ∨ 0 ≤ z ∧ z < lim)
    (HC : ∀ (n : Nat) (W : World), n < lim → Below G w W → w.heap.size ≤ W.heap.size → Calls Tryd.prog 50 #[.int .i64 (n : Int), .pointer (some ⟨bx, 0, none⟩)] W fun e W' => ∃ b, e = .returned b ∧ Hands W.heap.size W' G b (next n) ∧ Below W.heap.size W W') :
    Calls Tryd.prog 31 #[a, .slice (some ⟨G, 0, none⟩) 1 1, .func (.func 50) #[] #[.pointer (some ⟨bx, 0, none⟩)]] w fun e w' => ∃ v st, e = .returned v ∧ w'.ownsRow G 3 1 v st.2.length (st.2.map (Value.int .i64)) ∧ Spd next start s0 st st.2.length ∧ (∀ z ∈ st.2, z < lim) ∧ Below G w w' := by
  have wide : ∀ {zs : List Int}, (∀ z ∈ zs, z = -1 ∨ 0 ≤ z ∧ z < lim) → ∀ z ∈ zs, z = -1 ∨ 0 ≤ z ∧ z < 64 := fun h z hz => (h z hz).imp id (fun h => ⟨h.1, by omega⟩)
  have hst0 : Hid (∀ z ∈ (moreF (s0, []) start).2, z < lim) := Lib.hid fun z hz => by
    have hp := (spr_more (spr_start s0) (wide hr)).pos z hz
    rcases more_only hz with h | h
    · simp at h
    · have := hr z h
      omega
  have ht := Has.new w 54 [.slice (some ⟨G, 0, none⟩) 1 1]
  have k1 : Keeps [] w (w.alloc (.cells #[.slice (some ⟨G, 0, none⟩) 1 1] 54)) := Keeps.alloc [] w _
  have hl := Has.new (w.alloc (.cells #[.slice (some ⟨G, 0, none⟩) 1 1] 54)) 26 [.slice none 0 0]
  have k2 : Keeps [] (w.alloc (.cells #[.slice (some ⟨G, 0, none⟩) 1 1] 54)) ((w.alloc (.cells #[.slice (some ⟨G, 0, none⟩) 1 1] 54)).alloc (.cells #[.slice none 0 0] 26)) := Keeps.alloc [] _ _
  have k3 := k1.trans k2 (by simp)
  rw [World.size_alloc] at hl
  have h0 : SpA ((w.alloc (.cells #[.slice (some ⟨G, 0, none⟩) 1 1] 54)).alloc (.cells #[.slice none 0 0] 26)) G w.heap.size G (w.heap.size + 1) (.slice none 0 0) (s0, []) :=
    ⟨ht.keeps k2 (by simp), Has.keeps hs k3 (by simp), hx, hl, World.ownsRow_nil _ _ _ _, Nat.le_refl _, by omega⟩
  have hb0 : Below G w ((w.alloc (.cells #[.slice (some ⟨G, 0, none⟩) 1 1] 54)).alloc (.cells #[.slice none 0 0] 26)) := k3.toBelow G (by omega) (by simp)
  have ha2 : Hands 0 ((w.alloc (.cells #[.slice (some ⟨G, 0, none⟩) 1 1] 54)).alloc (.cells #[.slice none 0 0] 26)) G a start := by
    rcases ha with h | ⟨F, c, h1, h2, h3⟩
    · exact .inl h
    · exact .inr ⟨F, c, h1, h2.keeps k3 (by simp), h3⟩
  have HM := Lib.hid (more_all G w.heap.size G (w.heap.size + 1) (.slice none 0 0) a (s0, []) start hsl (by simp) (wide hr) _ (Nat.le_trans (by omega) hb0.size) h0 ha2 (.inl rfl))
  have HB0 := Lib.hid hb0
  have HS := Lib.hid (spd_start (next := next) (start := start) (s0 := s0) (wide hr))
  have HCn := Lib.hid HC
  have HNx := Lib.hid hn
  clear ht k1 hl k2 k3 h0 hb0 ha2 ha hs hx hsl hr HC hn
  go_enter Tryd.func31, Tryd.ntmps31
  go_wp2_with fail
  refine HM.out.mono ?_
  rintro e w1 ⟨rfl, v1, hsp1, hb1⟩
  have HD0 : Hid (SpA w1 G w.heap.size G (w.heap.size + 1) v1 (moreF (s0, []) start) ∧ Spd next start s0 (moreF (s0, []) start) 0 ∧ Below G w w1) := Lib.hid ⟨hsp1, HS.out, HB0.out.trans hb1⟩
  have hsz1 : w.heap.size ≤ w1.heap.size := HD0.out.2.2.size
  have c1 := hsp1.l.cell 0
  have l1 := hsp1.l.lt
  simp only [List.getElem?_cons_zero] at c1
  have hlen1 : ∃ a1 n1 cp1, v1 = .slice a1 n1 cp1 := by
    rcases hsp1.shape with ⟨rfl, _⟩ | ⟨g, cap, rfl, _⟩
    · exact ⟨_, _, _, rfl⟩
    · exact ⟨_, _, _, rfl⟩
  obtain ⟨a1, n1, cp1, rfl⟩ := hlen1
  clear HM HB0 HS hsp1 hb1
  go_wp2
  go_loopw [9] (fun i wr => ∃ (j : Nat) (v : Value) (st : Nat × List Int), i = .int .i64 (j : Int) ∧ j ≤ st.2.length ∧ st.2.length ≤ 64 ∧ Hid (∀ z ∈ st.2, z < lim) ∧ Hid (SpA wr G w.heap.size G (w.heap.size + 1) v st ∧ Spd next start s0 st j ∧ Below G w wr)) (fun i _ => 64 - (intOf i).toNat)
  case atStart => exact ⟨0, _, _, rfl, by omega, HD0.out.2.1.s.len, hst0, HD0⟩
  case round =>
    obtain ⟨j, v, st, rfl, hj, hj64, HLm, HD⟩ := hrel
    clear HD0 c1 l1 hsz1 hst0
    have hszr : w.heap.size ≤ wr.heap.size := HD.out.2.2.size
    have c1 := HD.out.1.l.cell 0
    have l1 := HD.out.1.l.lt
    simp only [List.getElem?_cons_zero] at c1
    by_cases hlt : j < st.2.length
    · rcases HD.out.1.shape with ⟨_, h9⟩ | ⟨g, cap, rfl, hg, hgl, hrow⟩
      · rw [h9] at hlt
        simp at hlt
      · have hc := hrow.cell hlt
        have hz := HD.out.2.1.s.pos _ (List.getElem_mem hlt)
        have HE : Hid (∀ n : Nat, st.2[j] = (n : Int) → n < lim → Spd next start s0 (moreF st (next n)) (j + 1)) := Lib.hid fun n h1 h2 => spd_step HD.out.2.1 hlt h1 (wide (HNx.out n h2).2)
        have hzl := HLm.out _ (List.getElem_mem hlt)
        obtain ⟨z, hzz⟩ : ∃ z, st.2[j] = z := ⟨_, rfl⟩
        rw [hzz] at hc hz HE hzl
        obtain ⟨n, rfl⟩ := Int.eq_ofNat_of_zero_le hz.1
        have hn64 : n < lim := by omega
        have HE2 := Lib.hid (HE.out n rfl hn64)
        have HK := Lib.hid (HCn.out n wr hn64 HD.out.2.2 hszr)
        obtain ⟨m, hm⟩ : ∃ m, st.2.length = m := ⟨_, rfl⟩
        have HMm := Lib.hid hm
        rw [hm] at c1 hlt hj hj64
        have hi1 : (j : Int) < (m : Int) := by omega
        have hi0 : (0 : Int) ≤ (j : Int) := by omega
        have hslot := hm
        clear HE hrow hz hzz hm hslot hzl
        try rw [HMm.out]
        go_wp2_with fail
        refine HK.out.mono ?_
        rintro e w3 ⟨b, rfl, hh3, hb3⟩
        have h3 := HD.out.1.keeps (Keeps.below' hb3 [])
        have HM2 := Lib.hid (more_all G w.heap.size G (w.heap.size + 1) _ b st (next n) (HNx.out n hn64).1 (by have := HMm.out; omega) (wide (HNx.out n hn64).2) w3 (Nat.le_trans (Nat.le_trans (Nat.le_of_lt hG) hszr) hb3.size) h3 hh3 (.inr (fun g' hg' => (own_lt HD.out.1.o g' hg').2)))
        have HB3 : Hid (Below G w w3) := Lib.hid (HD.out.2.2.trans (hb3.mono (Nat.le_trans (Nat.le_of_lt hG) hszr)))
        clear HK hh3 hb3 h3 hc hgl hg c1 l1
        go_wp2_with fail
        refine HM2.out.mono ?_
        rintro e w4 ⟨rfl, v4, hsp4, hb4⟩
        have HD4 : Hid (SpA w4 G w.heap.size G (w.heap.size + 1) v4 (moreF st (next n)) ∧ Spd next start s0 (moreF st (next n)) (j + 1) ∧ Below G w w4) := Lib.hid ⟨hsp4, HE2.out, HB3.out.trans hb4⟩
        have hl4 : (moreF st (next n)).2.length ≤ 64 := HE2.out.s.len
        have HL4 : Hid (∀ z ∈ (moreF st (next n)).2, z < lim) := Lib.hid fun z hz => by
          have hp := HE2.out.s.pos z hz
          rcases more_only hz with h | h
          · exact HLm.out z h
          · have := (HNx.out n hn64).2 z h
            omega
        have hj4 : j + 1 ≤ (moreF st (next n)).2.length := Nat.le_trans (by rw [← HMm.out] at hlt; exact hlt) (more_pre (zs := next n) st).length_le
        clear HM2 HB3 HD hsp4 hb4
        go_wp2
        go_roundw
        case rel => exact ⟨j + 1, v4, _, by go_num, hj4, hl4, HL4, HD4⟩
        case measure => simp [intOf]; omega
    · have hjm : j = st.2.length := by omega
      have HF : Hid (wr.ownsRow G 3 1 v st.2.length (st.2.map (Value.int .i64)) ∧ Spd next start s0 st st.2.length ∧ (∀ z ∈ st.2, z < lim) ∧ Below G w wr) := Lib.hid ⟨HD.out.1.o, hjm ▸ HD.out.2.1, HLm.out, HD.out.2.2⟩
      rcases HD.out.1.shape with ⟨rfl, h9⟩ | ⟨g, cap, rfl, hg, hgl, hrow⟩
      · have hj0 : j = 0 := by rw [hjm, h9]; rfl
        subst hj0
        clear HD hjm h9 hlt hj
        go_wp2
        go_ret
        exact ⟨_, st, rfl, HF.out⟩
      · obtain ⟨m, hm⟩ : ∃ m, st.2.length = m := ⟨_, rfl⟩
        have HMm := Lib.hid hm
        have HF2 : Hid (wr.ownsRow G 3 1 (.slice (some ⟨g, 0, none⟩) m cap) st.2.length (st.2.map (Value.int .i64)) ∧ Spd next start s0 st st.2.length ∧ (∀ z ∈ st.2, z < lim) ∧ Below G w wr) := Lib.hid (by rw [← hm]; exact HF.out)
        rw [hm] at c1 hlt hj hj64 hjm
        subst hjm
        have hi1 : ¬ ((j : Int) < (j : Int)) := by omega
        clear HF HD hrow hg hgl hm
        go_wp2
        go_ret
        exact ⟨_, rfl, st.1, st.2, HF2.out⟩
end FlowD
end Go.Proofs.YtajhkogknpmnbaaDoor
namespace Go.Proofs.YtajhkogknpmnbaaDoor
open Go.RowKit ObjM
namespace FlowD
open FlowM

set_option maxRecDepth 100000 in
set_option maxHeartbeats 16000000 in
theorem spread_writes (bx G s0 lim : Nat) (hlim : lim ≤ 64) (a : Value) (start : List Int) (next : Nat → List Int) (w : World) (hG : G < w.heap.size) (hs : SetAt w G s0) (hx : s0 < LabelM.M64) (ha : Hands 0 w G a start) (hsl : start.length ≤ 1000) (hr : ∀ z ∈ start, z = -1 ∨ 0 ≤ z ∧ z < lim)
    (hn : ∀ n : Nat, n < lim → (next n).length ≤ 1000 ∧ ∀ z ∈ next n, z = -1 ∨ 0 ≤ z ∧ z < lim)
    (HC : ∀ (n : Nat) (W : World), n < lim → Below G w W → w.heap.size ≤ W.heap.size → Calls Tryd.prog 36 #[.int .i64 (n : Int), .pointer (some ⟨bx, 0, none⟩)] W fun e W' => ∃ b, e = .returned b ∧ Hands W.heap.size W' G b (next n) ∧ Below W.heap.size W W') :
    Calls Tryd.prog 31 #[a, .slice (some ⟨G, 0, none⟩) 1 1, .func (.func 36) #[] #[.pointer (some ⟨bx, 0, none⟩)]] w fun e w' => ∃ v st, e = .returned v ∧ w'.ownsRow G 3 1 v st.2.length (st.2.map (Value.int .i64)) ∧ Spd next start s0 st st.2.length ∧ (∀ z ∈ st.2, z < lim) ∧ Below G w w' := by
  have wide : ∀ {zs : List Int}, (∀ z ∈ zs, z = -1 ∨ 0 ≤ z ∧ z < lim) → ∀ z ∈ zs, z = -1 ∨ 0 ≤ z ∧ z < 64 := fun h z hz => (h z hz).imp id (fun h => ⟨h.1, by omega⟩)
  have hst0 : Hid (∀ z ∈ (moreF (s0, []) start).2, z < lim) := Lib.hid fun z hz => by
    have hp := (spr_more (spr_start s0) (wide hr)).pos z hz
    rcases more_only hz with h | h
    · simp at h
    · have := hr z h
      omega
  have ht := Has.new w 54 [.slice (some ⟨G, 0, none⟩) 1 1]
  have k1 : Keeps [] w (w.alloc (.cells #[.slice (some ⟨G, 0, none⟩) 1 1] 54)) := Keeps.alloc [] w _
  have hl := Has.new (w.alloc (.cells #[.slice (some ⟨G, 0, none⟩) 1 1] 54)) 26 [.slice none 0 0]
  have k2 : Keeps [] (w.alloc (.cells #[.slice (some ⟨G, 0, none⟩) 1 1] 54)) ((w.alloc (.cells #[.slice (some ⟨G, 0, none⟩) 1 1] 54)).alloc (.cells #[.slice none 0 0] 26)) := Keeps.alloc [] _ _
  have k3 := k1.trans k2 (by simp)
  rw [World.size_alloc] at hl
  have h0 : SpA ((w.alloc (.cells #[.slice (some ⟨G, 0, none⟩) 1 1] 54)).alloc (.cells #[.slice none 0 0] 26)) G w.heap.size G (w.heap.size + 1) (.slice none 0 0) (s0, []) :=
    ⟨ht.keeps k2 (by simp), Has.keeps hs k3 (by simp), hx, hl, World.ownsRow_nil _ _ _ _, Nat.le_refl _, by omega⟩
  have hb0 : Below G w ((w.alloc (.cells #[.slice (some ⟨G, 0, none⟩) 1 1] 54)).alloc (.cells #[.slice none 0 0] 26)) := k3.toBelow G (by omega) (by simp)
  have ha2 : Hands 0 ((w.alloc (.cells #[.slice (some ⟨G, 0, none⟩) 1 1] 54)).alloc (.cells #[.slice none 0 0] 26)) G a start := by
    rcases ha with h | ⟨F, c, h1, h2, h3⟩
    · exact .inl h
    · exact .inr ⟨F, c, h1, h2.keeps k3 (by simp), h3⟩
  have HM := Lib.hid (more_all G w.heap.size G (w.heap.size + 1) (.slice none 0 0) a (s0, []) start hsl (by simp) (wide hr) _ (Nat.le_trans (by omega) hb0.size) h0 ha2 (.inl rfl))
  have HB0 := Lib.hid hb0
  have HS := Lib.hid (spd_start (next := next) (start := start) (s0 := s0) (wide hr))
  have HCn := Lib.hid HC
  have HNx := Lib.hid hn
  clear ht k1 hl k2 k3 h0 hb0 ha2 ha hs hx hsl hr HC hn
  go_enter Tryd.func31, Tryd.ntmps31
  go_wp2_with fail
  refine HM.out.mono ?_
  rintro e w1 ⟨rfl, v1, hsp1, hb1⟩
  have HD0 : Hid (SpA w1 G w.heap.size G (w.heap.size + 1) v1 (moreF (s0, []) start) ∧ Spd next start s0 (moreF (s0, []) start) 0 ∧ Below G w w1) := Lib.hid ⟨hsp1, HS.out, HB0.out.trans hb1⟩
  have hsz1 : w.heap.size ≤ w1.heap.size := HD0.out.2.2.size
  have c1 := hsp1.l.cell 0
  have l1 := hsp1.l.lt
  simp only [List.getElem?_cons_zero] at c1
  have hlen1 : ∃ a1 n1 cp1, v1 = .slice a1 n1 cp1 := by
    rcases hsp1.shape with ⟨rfl, _⟩ | ⟨g, cap, rfl, _⟩
    · exact ⟨_, _, _, rfl⟩
    · exact ⟨_, _, _, rfl⟩
  obtain ⟨a1, n1, cp1, rfl⟩ := hlen1
  clear HM HB0 HS hsp1 hb1
  go_wp2
  go_loopw [9] (fun i wr => ∃ (j : Nat) (v : Value) (st : Nat × List Int), i = .int .i64 (j : Int) ∧ j ≤ st.2.length ∧ st.2.length ≤ 64 ∧ Hid (∀ z ∈ st.2, z < lim) ∧ Hid (SpA wr G w.heap.size G (w.heap.size + 1) v st ∧ Spd next start s0 st j ∧ Below G w wr)) (fun i _ => 64 - (intOf i).toNat)
  case atStart => exact ⟨0, _, _, rfl, by omega, HD0.out.2.1.s.len, hst0, HD0⟩
  case round =>
    obtain ⟨j, v, st, rfl, hj, hj64, HLm, HD⟩ := hrel
    clear HD0 c1 l1 hsz1 hst0
    have hszr : w.heap.size ≤ wr.heap.size := HD.out.2.2.size
    have c1 := HD.out.1.l.cell 0
    have l1 := HD.out.1.l.lt
    simp only [List.getElem?_cons_zero] at c1
    by_cases hlt : j < st.2.length
    · rcases HD.out.1.shape with ⟨_, h9⟩ | ⟨g, cap, rfl, hg, hgl, hrow⟩
      · rw [h9] at hlt
        simp at hlt
      · have hc := hrow.cell hlt
        have hz := HD.out.2.1.s.pos _ (List.getElem_mem hlt)
        have HE : Hid (∀ n : Nat, st.2[j] = (n : Int) → n < lim → Spd next start s0 (moreF st (next n)) (j + 1)) := Lib.hid fun n h1 h2 => spd_step HD.out.2.1 hlt h1 (wide (HNx.out n h2).2)
        have hzl := HLm.out _ (List.getElem_mem hlt)
        obtain ⟨z, hzz⟩ : ∃ z, st.2[j] = z := ⟨_, rfl⟩
        rw [hzz] at hc hz HE hzl
        obtain ⟨n, rfl⟩ := Int.eq_ofNat_of_zero_le hz.1
        have hn64 : n < lim := by omega
        have HE2 := Lib.hid (HE.out n rfl hn64)
        have HK := Lib.hid (HCn.out n wr hn64 HD.out.2.2 hszr)
        obtain ⟨m, hm⟩ : ∃ m, st.2.length = m := ⟨_, rfl⟩
        have HMm := Lib.hid hm
        rw [hm] at c1 hlt hj hj64
        have hi1 : (j : Int) < (m : Int) := by omega
        have hi0 : (0 : Int) ≤ (j : Int) := by omega
        have hslot := hm
        clear HE hrow hz hzz hm hslot hzl
        try rw [HMm.out]
        go_wp2_with fail
        refine HK.out.mono ?_
        rintro e w3 ⟨b, rfl, hh3, hb3⟩
        have h3 := HD.out.1.keeps (Keeps.below' hb3 [])
        have HM2 := Lib.hid (more_all G w.heap.size G (w.heap.size + 1) _ b st (next n) (HNx.out n hn64).1 (by have := HMm.out; omega) (wide (HNx.out n hn64).2) w3 (Nat.le_trans (Nat.le_trans (Nat.le_of_lt hG) hszr) hb3.size) h3 hh3 (.inr (fun g' hg' => (own_lt HD.out.1.o g' hg').2)))
        have HB3 : Hid (Below G w w3) := Lib.hid (HD.out.2.2.trans (hb3.mono (Nat.le_trans (Nat.le_of_lt hG) hszr)))
        clear HK hh3 hb3 h3 hc hgl hg c1 l1
        go_wp2_with fail
        refine HM2.out.mono ?_
        rintro e w4 ⟨rfl, v4, hsp4, hb4⟩
        have HD4 : Hid (SpA w4 G w.heap.size G (w.heap.size + 1) v4 (moreF st (next n)) ∧ Spd next start s0 (moreF st (next n)) (j + 1) ∧ Below G w w4) := Lib.hid ⟨hsp4, HE2.out, HB3.out.trans hb4⟩
        have hl4 : (moreF st (next n)).2.length ≤ 64 := HE2.out.s.len
        have HL4 : Hid (∀ z ∈ (moreF st (next n)).2, z < lim) := Lib.hid fun z hz => by
          have hp := HE2.out.s.pos z hz
          rcases more_only hz with h | h
          · exact HLm.out z h
          · have := (HNx.out n hn64).2 z h
            omega
        have hj4 : j + 1 ≤ (moreF st (next n)).2.length := Nat.le_trans (by rw [← HMm.out] at hlt; exact hlt) (more_pre (zs := next n) st).length_le
        clear HM2 HB3 HD hsp4 hb4
        go_wp2
        go_roundw
        case rel => exact ⟨j + 1, v4, _, by go_num, hj4, hl4, HL4, HD4⟩
        case measure => simp [intOf]; omega
    · have hjm : j = st.2.length := by omega
      have HF : Hid (wr.ownsRow G 3 1 v st.2.length (st.2.map (Value.int .i64)) ∧ Spd next start s0 st st.2.length ∧ (∀ z ∈ st.2, z < lim) ∧ Below G w wr) := Lib.hid ⟨HD.out.1.o, hjm ▸ HD.out.2.1, HLm.out, HD.out.2.2⟩
      rcases HD.out.1.shape with ⟨rfl, h9⟩ | ⟨g, cap, rfl, hg, hgl, hrow⟩
      · have hj0 : j = 0 := by rw [hjm, h9]; rfl
        subst hj0
        clear HD hjm h9 hlt hj
        go_wp2
        go_ret
        exact ⟨_, st, rfl, HF.out⟩
      · obtain ⟨m, hm⟩ : ∃ m, st.2.length = m := ⟨_, rfl⟩
        have HMm := Lib.hid hm
        have HF2 : Hid (wr.ownsRow G 3 1 (.slice (some ⟨g, 0, none⟩) m cap) st.2.length (st.2.map (Value.int .i64)) ∧ Spd next start s0 st st.2.length ∧ (∀ z ∈ st.2, z < lim) ∧ Below G w wr) := Lib.hid (by rw [← hm]; exact HF.out)
        rw [hm] at c1 hlt hj hj64 hjm
        subst hjm
        have hi1 : ¬ ((j : Int) < (j : Int)) := by omega
        clear HF HD hrow hg hgl hm
        go_wp2
        go_ret
        exact ⟨_, rfl, st.1, st.2, HF2.out⟩
end FlowD
end Go.Proofs.YtajhkogknpmnbaaDoor
