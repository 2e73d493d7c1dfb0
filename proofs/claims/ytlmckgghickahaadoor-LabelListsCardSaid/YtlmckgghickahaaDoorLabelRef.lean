/- The document's own List and Show. -/
import Derived.Test.YtlmckgghickahaaDoorLabelParse
namespace Go.Proofs.YtlmckgghickahaaDoor
open Go.RowKit Go.Shelf
namespace LabelD
open LabelM

/-- The principals below k. -/
def natsK (L k : Nat) : List Nat := (List.range k).filter fun i => L.testBit i
theorem natsK_yes {L k : Nat} (h : L.testBit k = true) : natsK L (k + 1) = natsK L k ++ [k] := by
  unfold natsK
  rw [List.range_succ, List.filter_append]
  simp [h]
theorem natsK_no {L k : Nat} (h : L.testBit k = false) : natsK L (k + 1) = natsK L k := by
  unfold natsK
  rw [List.range_succ, List.filter_append]
  simp [h]
theorem natsK_len (L k : Nat) : (natsK L k).length ≤ k := by
  have := List.length_filter_le (fun i => L.testBit i) (List.range k)
  simpa [natsK] using this
theorem natsK_64 (L : Nat) : natsK L 64 = (finsL L).map (·.val) := by
  unfold natsK finsL
  have h : List.range 64 = (List.finRange 64).map (·.val) := by decide +kernel
  rw [h, List.filter_map]
  rfl
def intsV (l : List Nat) : List Value := l.map fun (n : Nat) => Value.int .i64 (n : Int)

set_option maxRecDepth 100000 in
set_option maxHeartbeats 1000000 in
theorem refList_any (L : Nat) (hL : L < M64) (w : World) :
    Calls Tryd.prog 20 #[.int .u64 L] w fun e w' => ∃ v, e = .returned v ∧ w'.ownsRow w.heap.size 3 1 v (natsK L 64).length (intsV (natsK L 64)) ∧ Below w.heap.size w w' := by
  obtain ⟨i0, hi, hz0, hz1, hz2⟩ := info_parts infoInt2
  go_enter Tryd.func20, Tryd.ntmps20
  go_wp2
  go_loopw [3, 4] (fun v i wr => ∃ (k : Nat), i = .int .i64 k ∧ k ≤ 64 ∧ wr.ownsRow w.heap.size 3 1 v (natsK L k).length (intsV (natsK L k)) ∧ Below w.heap.size w wr) (fun _ i _ => 64 - (intOf i).toNat)
  case atStart => exact ⟨0, rfl, by omega, World.ownsRow_nil _ _ _ _, Below.refl _ _⟩
  case round =>
    obtain ⟨k, rfl, hk, hown, hnx⟩ := hrel
    have hsz := hnx.size
    have hnl := natsK_len L k
    by_cases hlt : k < 64
    · have H1 := fun W => Lib.hid (refHas_any L hL k W)
      rw [hasB_nat L k hlt] at H1
      obtain ⟨x, hx⟩ : ∃ x, L.testBit k = x := ⟨_, rfl⟩
      rw [hx] at H1
      have HX := Lib.hid hx
      clear hx
      cases x
      · go_wp2_with fail
        refine ((H1 _).out).mono ?_
        rintro e w' ⟨rfl, rfl⟩
        go_wp2
        go_roundw
        case rel => exact ⟨k + 1, by go_num, by omega, by rw [natsK_no HX.out]; exact hown, hnx⟩
        case measure => simp [intOf]; omega
      · go_wp2_with fail
        refine ((H1 _).out).mono ?_
        rintro e w' ⟨rfl, rfl⟩
        go_wp2_with (at_builtin; refine wpList_append_own _ rfl _ _ 30 rfl w.heap.size 3 i0 (.int .i64 0) 1 8 Tryd.underlying30 hi hz0 hz1 hz2 rfl (by decide) _ _ _ rfl (hown.alloc _) ⟨wr.heap.size, 0, none⟩ 1 1 [.int .i64 k] rfl rfl (cell_one_new _ _ _) (by simp [Value.oneCell']) (by unfold maxLen; omega) (by omega) (by simp; omega) ?_)
        intro v' w3 hown' hgrow _
        have hb3 : Below w.heap.size wr w3 := ((Below.refl _ wr).alloc (by omega) _).grown hgrow (by simp; omega) (own_row_ge hown)
        go_wp2
        go_roundw
        case rel => exact ⟨k + 1, by go_num, by omega, by rw [natsK_yes HX.out, List.length_append]; simpa [intsV] using hown', hnx.trans hb3⟩
        case measure => simp [intOf]; omega
    · obtain rfl : k = 64 := by omega
      go_wp2
      go_ret
      exact ⟨_, rfl, hown, hnx⟩

theorem join_snoc (l : List (List UInt8)) (x : List UInt8) (h : l ≠ []) : Lib.join (l ++ [x]) [44] = Lib.join l [44] ++ 44 :: x := by
  cases l with
  | nil => exact absurd rfl h
  | cons a r =>
    rw [List.cons_append, Lib.join_cons, Lib.join_cons]
    simp [Lib.joinTail]
/-- What is written after k numbers. -/
def showK (ns : List Nat) (k : Nat) : List UInt8 := 123 :: Lib.join ((ns.take k).map Lib.decDigits) [44]
theorem showK_zero (ns : List Nat) : showK ns 0 = [123] := by simp [showK, Lib.join_nil]
theorem showK_one {ns : List Nat} (h : 0 < ns.length) : showK ns 1 = showK ns 0 ++ Lib.decDigits ns[0] := by
  rw [showK_zero]
  unfold showK
  rw [List.take_succ_eq_append_getElem h]
  simp [Lib.join_one]
theorem showK_succ {ns : List Nat} {k : Nat} (h0 : 0 < k) (h : k < ns.length) : showK ns (k + 1) = showK ns k ++ [44] ++ Lib.decDigits ns[k] := by
  unfold showK
  rw [List.take_succ_eq_append_getElem h, List.map_append, List.map_cons, List.map_nil, join_snoc _ _ (by
    intro he
    have := congrArg List.length he
    simp at this
    rcases this with h | h
    · omega
    · subst h; simp at *)]
  simp
theorem dec_len2 {n : Nat} (h : n < 64) : (Lib.decDigits n).length ≤ 2 := dec_len ⟨n, h⟩
theorem showK_len {ns : List Nat} (hn : ∀ x ∈ ns, x < 64) : ∀ k, k ≤ ns.length → (showK ns k).length ≤ 3 * k + 1
  | 0, _ => by rw [showK_zero]; simp
  | k + 1, h => by
    have ih := showK_len hn k (by omega)
    have hd := dec_len2 (hn ns[k] (List.getElem_mem (by omega)))
    by_cases h0 : k = 0
    · subst h0
      rw [showK_one (by omega), List.length_append]
      omega
    · rw [showK_succ (by omega) (by omega), List.length_append, List.length_append]
      simp
      omega

set_option maxRecDepth 100000 in
set_option maxHeartbeats 1000000 in
theorem refShow_any (L : Nat) (hL : L < M64) (w : World) :
    Calls Tryd.prog 25 #[.int .u64 L] w fun e w' => e = .returned (.string ⟨(showL L).toArray⟩) ∧ Below w.heap.size w w' := by
  have HL := Lib.hid (refList_any L hL w)
  go_enter Tryd.func25, Tryd.ntmps25
  go_wp2_with fail
  refine (HL.out).mono ?_
  rintro e w1 ⟨v, rfl, hown, hb1⟩
  obtain ⟨h1, h2⟩ := hown
  have hnl := natsK_len L 64
  have h64 := natsK_64 L
  obtain ⟨ns, hns⟩ : ∃ ns, natsK L 64 = ns := ⟨_, rfl⟩
  rw [hns] at h1 h2 hnl h64
  clear hns
  rcases h2 with ⟨rfl, he⟩ | ⟨g, cap, cur, rfl, hb, hgb, hr1, hr2, hr3, hr4⟩
  · obtain rfl := List.length_eq_zero_iff.1 he
    have hend : Hid (showL L = [123, 125]) := Lib.hid (by
      have h9 : finsL L = [] := List.map_eq_nil_iff.1 h64.symm
      simp [showL, h9, Lib.join_nil])
    clear h1 hnl h64
    go_wp2
    go_loop [3, 9] (fun sv i => i = .int .i64 0 ∧ sv = .string ⟨#[123]⟩) (fun _ _ => 0)
    case atStart => exact ⟨rfl, rfl⟩
    case round =>
      obtain ⟨rfl, rfl⟩ := hrel
      go_wp2
      go_ret
      rw [hend.out]
      exact ⟨rfl, hb1⟩
  · have hlt64 : ∀ x ∈ ns, x < 64 := by
      rw [h64]
      intro x hx
      obtain ⟨y, -, rfl⟩ := List.mem_map.1 hx
      exact y.isLt
    have HLen := Lib.hid (showK_len hlt64)
    have HEnd : Hid (showL L = showK ns ns.length ++ [125]) := Lib.hid (by
      unfold showL showK
      rw [List.take_length, h64, List.map_map]
      rfl)
    have HC : Hid (∀ (j : Nat) (h : j < ns.length), w1.cell? ⟨g, j, none⟩ = some (.int .i64 (ns[j] : Int))) := Lib.hid (by
      intro j h
      have h9 : (intsV ns)[j]? = some (.int .i64 (ns[j] : Int)) := by simp [intsV, h]
      rw [← hr4, List.getElem?_take_of_lt (by omega)] at h9
      have h10 : cur[j]? = some (.int .i64 (ns[j] : Int)) := by simpa using h9
      simp [World.cell?, hgb, h10])
    clear h1 h64 hgb hr3 hr4 hb
    go_wp2
    go_loop [3, 9] (fun sv i => ∃ k : Nat, i = .int .i64 k ∧ k ≤ ns.length ∧ sv = .string ⟨(showK ns k).toArray⟩) (fun _ i => ns.length - (intOf i).toNat)
    case atStart => exact ⟨0, rfl, by omega, by rw [showK_zero]⟩
    case round =>
      obtain ⟨k, rfl, hk, rfl⟩ := hrel
      have hTl := HLen.out k hk
      by_cases hlt : k < ns.length
      · have hcell := HC.out k hlt
        have hx64 := hlt64 ns[k] (List.getElem_mem hlt)
        have hsuc := fun h0 : 0 < k => showK_succ h0 hlt
        have hone := fun h0 : 0 < ns.length => showK_one h0
        obtain ⟨T, hT⟩ : ∃ T, showK ns k = T := ⟨_, rfl⟩
        by_cases h0 : k = 0
        · subst h0
          have HS := Lib.hid (showK_one hlt)
          obtain ⟨x, hx⟩ : ∃ x, ns[0] = x := ⟨_, rfl⟩
          rw [hx] at hcell hx64 HS
          rw [hT] at HS hTl ⊢
          have hd := dec_len2 hx64
          have HI := fun W => Lib.hid (Tryd.strconv_Itoa_small x (by omega) W)
          obtain ⟨D, hD⟩ : ∃ D, Lib.decDigits x = D := ⟨_, rfl⟩
          simp only [hD] at HI HS hd
          clear hx hT hsuc hone hD
          go_wp2_with (go_at_call 29; refine ((HI _).out).mono ?_; rintro e w4 ⟨rfl, rfl⟩)
          go_round
          case rel => exact ⟨1, by go_num, by omega, by rw [HS.out]; congr 1⟩
          case measure => simp [intOf]; omega
        · have h0' : 0 < k := by omega
          have HS := Lib.hid (showK_succ h0' hlt)
          obtain ⟨x, hx⟩ : ∃ x, ns[k] = x := ⟨_, rfl⟩
          rw [hx] at hcell hx64 HS
          rw [hT] at HS hTl ⊢
          have hd := dec_len2 hx64
          have HI := fun W => Lib.hid (Tryd.strconv_Itoa_small x (by omega) W)
          obtain ⟨D, hD⟩ : ∃ D, Lib.decDigits x = D := ⟨_, rfl⟩
          simp only [hD] at HI HS hd
          clear hx hT hsuc hone hD
          go_wp2_with (go_at_call 29; refine ((HI _).out).mono ?_; rintro e w4 ⟨rfl, rfl⟩)
          go_round
          case rel => exact ⟨k + 1, by go_num, by omega, by rw [HS.out]; congr 1⟩
          case measure => simp [intOf]; omega
      · obtain rfl : k = ns.length := by omega
        obtain ⟨T, hT⟩ : ∃ T, showK ns ns.length = T := ⟨_, rfl⟩
        rw [hT] at HEnd hTl ⊢
        clear hT
        go_wp2
        go_ret
        rw [HEnd.out]
        exact ⟨by congr 2, hb1⟩
end LabelD
end Go.Proofs.YtlmckgghickahaaDoor
