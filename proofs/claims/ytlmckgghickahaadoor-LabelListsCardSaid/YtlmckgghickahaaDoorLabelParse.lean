/- label.Parse: the label that a text is, or none. -/
import Derived.Test.YtlmckgghickahaaDoorLabelShow
import Derived.Test.YtlmckgghickahaaDoorLabelOf
import Derived.Lib.SmallJoins
import Derived.Lib.AtoiErrMem
namespace Go.Proofs.YtlmckgghickahaaDoor
open Go.RowKit Go.Shelf
namespace LabelD
open LabelM
theorem infoInt2 : (Tryd.prog.info? 3).map (fun i => (i.zero, i.size, i.bytes)) = some (some (.int .i64 0), 1, 8) := by kernel_rfl

/-- What the package-level variables hold. -/
structure Tabs (w : World) : Prop where
  lo : 5 ≤ w.heap.size
  bru : Bru w
  max : ∃ m, w.cell? ⟨4, 0, none⟩ = some (.int .i64 m)
  syn : ∃ ev, w.cell? ⟨1, 0, none⟩ = some ev ∧ (ev = .nilIface ∨ ∃ te pe, ev = .iface te pe)
  rng : ∃ ev, w.cell? ⟨2, 0, none⟩ = some ev ∧ (ev = .nilIface ∨ ∃ te pe, ev = .iface te pe)
theorem Tabs.below {w w' : World} {B : Nat} (h : Tabs w) (hb : Below B w w') (hB : 5 ≤ B) : Tabs w' := by
  have hc : ∀ k, k < 5 → ∀ j, w'.cell? ⟨k, j, none⟩ = w.cell? ⟨k, j, none⟩ := fun k hk j => hb.cell (p := ⟨k, j, none⟩) (by simp; omega)
  have h1 := h.max
  have h2 := h.syn
  have h3 := h.rng
  rw [← hc _ (by decide)] at h1
  simp only [← hc _ (show 1 < 5 by decide)] at h2
  simp only [← hc _ (show 2 < 5 by decide)] at h3
  exact ⟨Nat.le_trans h.lo hb.size, fun j hj => (hc _ (by decide) _).trans (h.bru j hj), h1, h2, h3⟩

/-- How Parse ends. -/
def ParseIs (s : List UInt8) (e : Ending) : Prop :=
  (∃ L, L < M64 ∧ s = showL L ∧ e = .returned (.tuple #[.int .u64 (L : Int), .bool true])) ∨
  ((∀ L, L < M64 → s ≠ showL L) ∧ e = .returned (.tuple #[.int .u64 0, .bool false]))

theorem showL_zero : showL 0 = [123, 125] := by simp [showL, finsL_zero, Lib.join_nil]

theorem own_below {w w' : World} {base : Nat} {e : TypeId} {size : Nat} {v : Value} {n : Nat} {xs : List Value} (h : w.ownsRow base e size v n xs) (hb : Below w.heap.size w w') : w'.ownsRow base e size v n xs := by
  obtain ⟨h1, h2⟩ := h
  refine ⟨h1, ?_⟩
  rcases h2 with h2 | ⟨g, cap, cur, a1, a2, a3, a4⟩
  · exact .inl h2
  · exact .inr ⟨g, cap, cur, a1, a2, (hb.block g (Array.getElem?_eq_some_iff.1 a3).1).trans a3, a4⟩
theorem own_row_ge {w : World} {base : Nat} {e : TypeId} {size : Nat} {v : Value} {n : Nat} {xs : List Value} (h : w.ownsRow base e size v n xs) : ∀ k, v.ownBlock = some k → base ≤ k := by
  intro k hk
  rcases h.2 with ⟨rfl, -⟩ | ⟨g, cap, cur, rfl, a2, -⟩
  · simp [Value.ownBlock] at hk
  · simp [Value.ownBlock] at hk
    omega
/-- A part that is no numeral: the text is no label's. -/
theorem bad_part {s2 : ByteArray} {s : List UInt8} {Pz : List ByteArray} (h2 : s = 123 :: (s2.data.toList ++ [125])) (hne : s2.data.toList ≠ []) (hP : Lib.splitB ⟨#[44]⟩ 0 (Lib.countB s2 ⟨#[44]⟩) s2 = Pz)
    {p : ByteArray} (hm : p ∈ Pz) (hA : ∀ v, Lib.atoiAll p.data.toList ≠ .ok v) : ∀ L, L < M64 → s ≠ showL L := by
  intro L hL he
  rw [h2, show_inner] at he
  have h0 := show_zero_iff hL he hne
  have hs := split_show hL h0 s2 he
  rw [hP] at hs
  have : p.data.toList ∈ Pz.map (·.data.toList) := List.mem_map.2 ⟨p, hm, rfl⟩
  rw [hs] at this
  obtain ⟨y, -, hy⟩ := List.mem_map.1 this
  exact hA _ (hy ▸ dec_atoi y)

/-- Of over an owned row. -/
theorem of_row {n0 : Nat} (zs : List Int) (hz : 1 ≤ zs.length) (hlen : zs.length ≤ 9223372036854775807) (W : World) (v : Value) (hrow : W.ownsRow n0 3 1 v zs.length (zs.map (Value.int .i64))) :
    Calls Tryd.prog 21 #[v] W fun e W' => e = .returned (ofV .i64 zs) ∧ W = W' := by
  obtain ⟨h1, h2⟩ := hrow
  rcases h2 with ⟨rfl, he⟩ | ⟨g, cap, cur, rfl, hb, hgb, hr1, hr2, hr3, hr4⟩
  · omega
  · refine of_any g 0 cap zs hlen W ?_
    intro j x hx
    have h9 : (zs.map (Value.int .i64))[j]? = some (.int .i64 x) := by simp [hx]
    rw [← hr4] at h9
    have h10 : cur[j]? = some (.int .i64 x) := by
      have hlt : j < zs.length * 1 := by
        have := (List.getElem?_eq_some_iff.1 hx).1
        omega
      rw [List.getElem?_take_of_lt hlt] at h9
      simpa using h9
    simp [World.cell?, hgb, h10]
theorem ofGo_fins (l : List (Fin 64)) : ∀ acc, ofGo (l.map fun y => (y.val : Int)) acc = some (l.foldl (fun a y => a ||| 2 ^ y.val) acc) := by
  induction l with
  | nil => intro acc; rfl
  | cons y r ih =>
    intro acc
    rw [List.map_cons, ofGo, if_neg (by omega), ih]
    rfl
theorem ofL_lt {zs : List Int} {l : Nat} (h : ofL zs = some l) : l < M64 := by
  have : ∀ (zs : List Int) (acc l : Nat), acc < M64 → ofGo zs acc = some l → l < M64 := by
    intro zs
    induction zs with
    | nil => intro acc l ha h; simp [ofGo] at h; omega
    | cons p r ih =>
      intro acc l ha h
      rw [ofGo] at h
      split at h
      · cases h
      · rename_i hp
        exact ih _ _ (or_pow_lt ha (by omega) (by omega)) h
  exact this zs 0 l (by decide) h
theorem fold_bit (l : List (Fin 64)) : ∀ (acc i : Nat), (l.foldl (fun a y => a ||| 2 ^ y.val) acc).testBit i = (acc.testBit i || l.any fun y => y.val == i) := by
  induction l with
  | nil => intro acc i; simp
  | cons y r ih =>
    intro acc i
    rw [List.foldl_cons, ih, Nat.testBit_or, Nat.testBit_two_pow, List.any_cons, Bool.or_assoc]
    congr 2
theorem fold_fins {L : Nat} (hL : L < M64) : (finsL L).foldl (fun a y => a ||| 2 ^ y.val) 0 = L := by
  refine Nat.eq_of_testBit_eq fun i => ?_
  rw [fold_bit, Nat.zero_testBit, Bool.false_or]
  by_cases hi : i < 64
  · rw [Bool.eq_iff_iff, List.any_eq_true]
    constructor
    · rintro ⟨y, hy, hyi⟩
      have h1 := (List.mem_filter.1 hy).2
      rw [beq_iff_eq] at hyi
      rw [← hyi]
      exact h1
    · intro h
      exact ⟨⟨i, hi⟩, List.mem_filter.2 ⟨List.mem_finRange _, h⟩, by simp⟩
  · rw [testBit_big hL (by omega)]
    rw [List.any_eq_false]
    intro y _
    have := y.isLt
    simp
    omega
/-- The numbers of the parts, where all are numerals: a label's text gives that label's. -/
theorem of_show {s2 : ByteArray} {s : List UInt8} {Pz : List ByteArray} (h2 : s = 123 :: (s2.data.toList ++ [125])) (hne : s2.data.toList ≠ []) (hP : Lib.splitB ⟨#[44]⟩ 0 (Lib.countB s2 ⟨#[44]⟩) s2 = Pz)
    {zs : List Int} (hA : Pz.map (fun p => Lib.atoiAll p.data.toList) = zs.map Lib.NumEnd.ok) {L : Nat} (hL : L < M64) (he : s = showL L) : ofL zs = some L := by
  rw [h2, show_inner] at he
  have h0 := show_zero_iff hL he hne
  have hs := split_show hL h0 s2 he
  rw [hP] at hs
  have h3 : Pz.map (fun p => Lib.atoiAll p.data.toList) = ((finsL L).map fun y => (y.val : Int)).map Lib.NumEnd.ok := by
    have := congrArg (List.map Lib.atoiAll) hs
    rw [List.map_map, List.map_map] at this
    rw [List.map_map]
    refine Eq.trans this (List.map_congr_left fun y _ => ?_)
    exact dec_atoi y
  rw [hA] at h3
  have hinj : zs = (finsL L).map fun y => (y.val : Int) := (List.map_inj_right (fun a b h => by injection h)).1 h3
  rw [hinj]
  unfold ofL
  rw [ofGo_fins, fold_fins hL]

theorem parse_no {s : List UInt8} (h : ∀ L, L < M64 → s ≠ showL L) : ParseIs s (.returned (.tuple #[.int .u64 0, .bool false])) := .inr ⟨h, rfl⟩

set_option maxRecDepth 100000 in
set_option maxHeartbeats 2000000 in
theorem parse_any (s : ByteArray) (hs : s.size ≤ 1000000) (w : World) (hT : Tabs w) :
    Calls Tryd.prog 24 #[.string s] w fun e w' => ParseIs s.data.toList e ∧ Below w.heap.size w w' := by
  obtain ⟨i0, hi, hz0, hz1, hz2⟩ := info_parts infoInt2
  have HT := Lib.hid hT
  clear hT
  have HP := fun W' => Lib.hid (Tryd.strings_CutPrefix s ⟨#[123]⟩ W')
  obtain ⟨b1, hb1⟩ : ∃ b, Lib.hasPrefix s.data.toList [123] = b := ⟨_, rfl⟩
  obtain ⟨s1, hs1⟩ : ∃ b : ByteArray, ⟨(Lib.trimPrefix s.data.toList [123]).toArray⟩ = b := ⟨_, rfl⟩
  simp only [hb1, hs1] at HP
  have hl1 : s1.size ≤ s.size := by
    subst hs1
    simp only [ByteArray.size, List.size_toArray, Lib.trimPrefix]
    split <;> simp
  have HS := fun W' => Lib.hid (Tryd.strings_CutSuffix s1 ⟨#[125]⟩ W' (by omega))
  obtain ⟨b2, hb2⟩ : ∃ b, Lib.hasSuffix s1.data.toList [125] = b := ⟨_, rfl⟩
  obtain ⟨s2, hs2⟩ : ∃ b : ByteArray, ⟨(Lib.trimSuffix s1.data.toList [125]).toArray⟩ = b := ⟨_, rfl⟩
  simp only [hb2, hs2] at HS
  have hl2 : s2.size ≤ s1.size := by
    subst hs2
    simp only [ByteArray.size, List.size_toArray, Lib.trimSuffix]
    split <;> simp
  cases b1
  case false =>
    have H0 : Hid (∀ L, L < M64 → s.data.toList ≠ showL L) := Lib.hid fun L _ => pre_no hb1 L
    clear hb1 hb2 hs1 hs2 hl1 hl2 HS
    go_enter Tryd.func24, Tryd.ntmps24
    go_wp2_with fail
    refine ((HP _).out).mono ?_
    rintro e w' ⟨rfl, rfl⟩
    go_wp2
    go_ret2
    exact ⟨parse_no H0.out, Below.refl _ _⟩
  have H1 : Hid (s.data.toList = 123 :: s1.data.toList) := Lib.hid (by rw [← hs1]; exact pre_yes hb1)
  clear hs1 hb1
  cases b2
  case false =>
    have H0 : Hid (∀ L, L < M64 → s.data.toList ≠ showL L) := Lib.hid fun L _ => by rw [H1.out]; exact suf_no hb2 L
    clear hb2 hs2 hl1 hl2 H1
    go_enter Tryd.func24, Tryd.ntmps24
    go_wp2_with fail
    refine ((HP _).out).mono ?_
    rintro e w' ⟨rfl, rfl⟩
    go_wp2_with fail
    refine ((HS _).out).mono ?_
    rintro e w' ⟨rfl, rfl⟩
    go_wp2
    go_ret2
    exact ⟨parse_no H0.out, Below.refl _ _⟩
  have H2 : Hid (s.data.toList = 123 :: (s2.data.toList ++ [125])) := Lib.hid (by rw [H1.out]; congr 1; rw [← hs2]; exact suf_yes hb2)
  clear hs2 hb2 H1
  by_cases hz : s2 = ⟨#[]⟩
  · subst hz
    have H3 : Hid (s.data.toList = showL 0) := Lib.hid (by rw [H2.out, showL_zero]; rfl)
    clear H2 hl1 hl2
    go_enter Tryd.func24, Tryd.ntmps24
    go_wp2_with fail
    refine ((HP _).out).mono ?_
    rintro e w' ⟨rfl, rfl⟩
    go_wp2_with fail
    refine ((HS _).out).mono ?_
    rintro e w' ⟨rfl, rfl⟩
    go_wp2
    go_ret2
    exact ⟨.inl ⟨0, by decide, H3.out, rfl⟩, Below.refl _ _⟩
  have hne : s2.data.toList ≠ [] := fun h => hz (by
    obtain ⟨⟨l⟩⟩ := s2
    simp at h
    subst h
    rfl)
  have hzB : s2.toList.isEmpty = false := by
    rw [Lib.toList_data]
    cases h : s2.data.toList with
    | nil => exact absurd h hne
    | cons a r => rfl
  obtain ⟨m, hm⟩ := HT.out.max
  have hSp := Tryd.strings_Split s2 ⟨#[44]⟩ m w (by omega) hm (by decide)
  have hPl := Lib.splitB_all ⟨#[44]⟩ (by decide) 0 _ s2 rfl
  have hcl := Lib.countB_le ⟨#[44]⟩ (by decide) _ s2 (Nat.le_refl _)
  rw [← hPl] at hSp
  have Hne := Lib.hid hne
  obtain ⟨Pz, hPz⟩ : ∃ l, Lib.splitB ⟨#[44]⟩ 0 (Lib.countB s2 ⟨#[44]⟩) s2 = l := ⟨_, rfl⟩
  rw [hPz] at hSp hPl
  have HPz := Lib.hid hPz
  have HSp := Lib.hid hSp
  have hPn : Pz.length ≤ 1000001 := by omega
  have hP1 : 1 ≤ Pz.length := by omega
  clear hm hcl hPl hPz hSp hne hz
  go_enter Tryd.func24, Tryd.ntmps24
  go_wp2_with fail
  refine ((HP _).out).mono ?_
  rintro e w' ⟨rfl, rfl⟩
  go_wp2_with fail
  refine ((HS _).out).mono ?_
  rintro e w' ⟨rfl, rfl⟩
  go_wp2_with fail
  refine (HSp.out).mono ?_
  rintro e w1 ⟨rfl, hw1⟩
  subst hw1
  go_wp2
  go_loopw [6, 32] (fun v i wr => ∃ (k : Nat) (zs : List Int), i = .int .i64 k ∧ k ≤ Pz.length ∧ wr.ownsRow (w'.heap.size + 1) 3 1 v zs.length (zs.map (Value.int .i64)) ∧ (Pz.take k).map (fun p => Lib.atoiAll p.data.toList) = zs.map Lib.NumEnd.ok ∧
    Below (w'.heap.size + 1) (w'.alloc (.cells (Pz.map Value.string).toArray 9)) wr) (fun _ i _ => Pz.length - (intOf i).toNat)
  case atStart => exact ⟨0, [], rfl, by omega, World.ownsRow_nil _ _ _ _, rfl, Below.refl _ _⟩
  case round =>
    obtain ⟨k, zs, rfl, hk, hown, hat, hnx⟩ := hrel
    have hsz := hnx.size
    simp only [World.size_alloc] at hsz
    by_cases hlt : k < Pz.length
    · have hpl : Pz[k].size ≤ s2.size := part_le _ _ _ _ (by rw [HPz.out]; exact List.getElem_mem hlt)
      have hpm : Pz[k] ∈ Pz := List.getElem_mem hlt
      have hcell : wr.cell? ⟨w'.heap.size, k, none⟩ = some (.string Pz[k]) := (hnx.cell (p := ⟨w'.heap.size, k, none⟩) (by simp)).trans (by rw [World.cell?_alloc_at _ _ _ _ rfl]; simp [hlt])
      have hat2 : Lib.atoiAll Pz[k].data.toList = .ok 0 → True := fun _ => trivial
      have hsn := List.take_succ_eq_append_getElem hlt
      obtain ⟨p, hp⟩ : ∃ p, Pz[k] = p := ⟨_, rfl⟩
      rw [hp] at hcell hpl hpm hsn
      have HTr : Hid (Tabs wr) := Lib.hid ((HT.out.below ((Below.refl _ w').alloc (Nat.le_refl _) _) HT.out.lo).below (hnx.mono (Nat.le_succ _)) HT.out.lo)
      have Hsn := Lib.hid hsn
      have Hat := Lib.hid hat
      clear hat hat2 hsn hp
      rcases hA : Lib.atoiAll p.data.toList with v | _ | _
      ·
        have HA := Lib.hid hA
        clear hA
        have HAt := Lib.hid (Tryd.strconv_Atoi_ok p (by omega) v HA.out wr)
        go_wp2_with fail
        refine (HAt.out).mono ?_
        rintro e w2 ⟨rfl, hw2⟩
        have hb2 : Below wr.heap.size wr w2 := by
          rcases hw2 with rfl | ⟨t, rfl⟩
          · exact Below.refl _ _
          · exact Lib.bytesWorld_below _ _ _
        have hown2 := own_below hown hb2
        have hsz2 := hb2.size
        have hzl : zs.length = k := by
          have := congrArg List.length Hat.out
          simp at this
          omega
        clear hw2 hcell
        go_wp2_with (at_builtin; refine wpList_append_own _ rfl _ _ 30 rfl (w'.heap.size + 1) 3 i0 (.int .i64 0) 1 8 Tryd.underlying30 hi hz0 hz1 hz2 rfl (by decide) _ _ _ rfl (hown2.alloc _) ⟨w2.heap.size, 0, none⟩ 1 1 [.int .i64 v] rfl rfl (cell_one_new _ _ _) (by simp [Value.oneCell']) (by unfold maxLen; omega) (by omega) (by simp; omega) ?_)
        intro v' w3 hown' hgrow _
        have hb3 : Below (w'.heap.size + 1) w2 w3 := ((Below.refl _ w2).alloc (by omega) _).grown hgrow (by simp; omega) (own_row_ge hown2)
        go_wp2
        go_roundw
        case rel => exact ⟨k + 1, zs ++ [v], by go_num, by omega, by rw [List.length_append, List.map_append, hzl]; exact hown', by rw [Hsn.out, List.map_append, Hat.out, List.map_append]; simp [HA.out], (hnx.trans (hb2.mono (by omega))).trans hb3⟩
        case measure => simp [intOf]; omega
      ·
        have HB : Hid (∀ L, L < M64 → s.data.toList ≠ showL L) := Lib.hid (bad_part H2.out Hne.out HPz.out hpm (by rw [hA]; intro v h; cases h))
        obtain ⟨ev, hev1, hev2⟩ := HTr.out.syn
        have HAt := Lib.hid (Any.strconv_Atoi_syntax Tryd.laysC172 p (by omega) hA ev wr hev1 hev2)
        clear hA hev1 hev2
        go_wp2_with fail
        refine (HAt.out).mono ?_
        rintro e w2 ⟨N, rfl, -, -, hb2⟩
        go_wp2
        go_ret2
        exact ⟨parse_no HB.out, (((Below.refl _ w').alloc (Nat.le_refl _) _).trans (hnx.mono (by omega))).trans (hb2.mono (by omega))⟩
      ·
        have HB : Hid (∀ L, L < M64 → s.data.toList ≠ showL L) := Lib.hid (bad_part H2.out Hne.out HPz.out hpm (by rw [hA]; intro v h; cases h))
        obtain ⟨ev, hev1, hev2⟩ := HTr.out.rng
        have HAt := Lib.hid (Tryd.strconv_Atoi_range p (by omega) hA ev wr hev1 hev2)
        clear hA hev1 hev2
        go_wp2_with fail
        refine (HAt.out).mono ?_
        rintro e w2 ⟨N, rfl, -, -, hb2⟩
        go_wp2
        go_ret2
        exact ⟨parse_no HB.out, (((Below.refl _ w').alloc (Nat.le_refl _) _).trans (hnx.mono (by omega))).trans (hb2.mono (by omega))⟩
    · obtain rfl : k = Pz.length := by omega
      rw [List.take_length] at hat
      have Hat := Lib.hid hat
      have hzl : zs.length = Pz.length := by
        have := congrArg List.length hat
        simpa using this.symm
      have HTr : Hid (Tabs wr) := Lib.hid ((HT.out.below ((Below.refl _ w').alloc (Nat.le_refl _) _) HT.out.lo).below (hnx.mono (Nat.le_succ _)) HT.out.lo)
      have HOf := Lib.hid (of_row zs (by omega) (by omega) wr _ hown)
      have hB0 := ((Below.refl _ w').alloc (Nat.le_refl _) (.cells (Pz.map Value.string).toArray 9)).trans (hnx.mono (by omega))
      clear hat hown
      cases hof : ofL zs with
      | none =>
        have HB : Hid (∀ L, L < M64 → s.data.toList ≠ showL L) := Lib.hid fun L hL he => by rw [of_show H2.out Hne.out HPz.out Hat.out hL he] at hof; cases hof
        simp only [ofV, hof] at HOf
        go_wp2_with fail
        refine (HOf.out).mono ?_
        rintro e w2 ⟨rfl, rfl⟩
        go_wp2
        go_ret2
        exact ⟨parse_no HB.out, hB0⟩
      | some l =>
        have hl := ofL_lt hof
        have HSh := Lib.hid (callsIn_wide.1 (show_in l hl wr HTr.out.bru (Nat.lt_of_lt_of_le (by decide) HTr.out.lo)))
        have HB : Hid (∀ L, L < M64 → s.data.toList = showL L → L = l) := Lib.hid fun L hL he => by rw [of_show H2.out Hne.out HPz.out Hat.out hL he] at hof; injection hof
        simp only [ofV, hof] at HOf
        obtain ⟨T, hTT⟩ : ∃ T : ByteArray, ⟨(showL l).toArray⟩ = T := ⟨_, rfl⟩
        rw [hTT] at HSh
        have HTd : Hid (T.data.toList = showL l) := Lib.hid (by rw [← hTT])
        clear hTT
        by_cases hq : T = s
        · subst hq
          go_wp2_with fail
          refine (HOf.out).mono ?_
          rintro e w2 ⟨rfl, rfl⟩
          go_wp2_with fail
          refine (HSh.out).mono ?_
          rintro e w3 ⟨rfl, hb3⟩
          go_wp2
          go_ret2
          exact ⟨.inl ⟨l, hl, HTd.out, rfl⟩, hB0.trans (hb3.mono hB0.size)⟩
        · have HBB : Hid (∀ L, L < M64 → s.data.toList ≠ showL L) := Lib.hid fun L hL he => hq (by
            have h1 := HB.out L hL he
            subst h1
            have h2 := HTd.out.trans he.symm
            obtain ⟨⟨t⟩⟩ := T
            obtain ⟨⟨u⟩⟩ := s
            simp at h2
            rw [h2])
          have hq2 : ¬ s = T := fun h => hq h.symm
          have hqB : (T.toList == s.toList) = false := by
            rw [Lib.toList_data, Lib.toList_data, beq_eq_false_iff_ne]
            intro h
            exact hq (by
              obtain ⟨⟨t⟩⟩ := T
              obtain ⟨⟨u⟩⟩ := s
              simp at h
              rw [h])
          go_wp2_with fail
          refine (HOf.out).mono ?_
          rintro e w2 ⟨rfl, rfl⟩
          go_wp2_with fail
          refine (HSh.out).mono ?_
          rintro e w3 ⟨rfl, hb3⟩
          go_wp2
          go_ret2
          exact ⟨parse_no HBB.out, hB0.trans (hb3.mono hB0.size)⟩
end LabelD
end Go.Proofs.YtlmckgghickahaaDoor
