/- The walk of GuardEnds. -/
import Derived.Test.YtnlblmdmhfahpaaGuardActs2
import Derived.Test.YtnlblmdmhfahpaaShellSlice
namespace Go.Proofs.Ytnlblmdmhfahpaa
open Go.RowKit ObjM Shell
namespace GuardD
open LabelM LabelD GuardM

def natsI (ns : List Nat) : List Int := ns.map fun (n : Nat) => (n : Int)
theorem natsI_len (ns : List Nat) : (natsI ns).length = ns.length := by simp [natsI]
theorem nats_of {zs : List Int} (h : ∀ n ∈ zs, (Lit.int .u64 n).wf = true) : ∃ ns : List Nat, zs = natsI ns ∧ ∀ n ∈ ns, n < M64 := by
  induction zs with
  | nil => exact ⟨[], rfl, by simp⟩
  | cons z r ih =>
    obtain ⟨ns, rfl, hn⟩ := ih fun n hn => h n (List.mem_cons_of_mem _ hn)
    have hz := bounds_u64 (h z (List.mem_cons_self))
    refine ⟨z.toNat :: ns, by simp [natsI]; omega, ?_⟩
    intro n hn'
    rcases List.mem_cons.1 hn' with rfl | hn'
    · unfold M64; omega
    · exact hn n hn'
/-- The label behind k branches. -/
def labK (own : Nat) (ns : List Nat) (k : Nat) : Nat := (ns.take k).foldl (· ||| ·) own
theorem labK_succ (own : Nat) {ns : List Nat} {k : Nat} (h : k < ns.length) : labK own ns (k + 1) = labK own ns k ||| ns[k] := by
  unfold labK
  rw [List.take_succ_eq_append_getElem h, List.foldl_append]
  rfl
theorem labK_zero (own : Nat) (ns : List Nat) : labK own ns 0 = own := rfl
theorem labK_lt (own : Nat) {ns : List Nat} (ho : own < M64) (hn : ∀ x ∈ ns, x < M64) : ∀ k, k ≤ ns.length → labK own ns k < M64
  | 0, _ => ho
  | k + 1, h => by
    rw [labK_succ own (by omega)]
    exact or_lt (labK_lt own ho hn k (by omega)) (hn _ (List.getElem_mem _))
def regK (own : Nat) (ns : List Nat) (m : Nat) : Reg := ⟨1000 - (m : Int), m, labK own ns m⟩
def rsK (own : Nat) (ns : List Nat) (k : Nat) : List Reg := (List.range k).map (regK own ns)
theorem rsK_succ (own : Nat) (ns : List Nat) (k : Nat) : rsK own ns (k + 1) = rsK own ns k ++ [regK own ns k] := by
  unfold rsK
  rw [List.range_succ, List.map_append]
  rfl
theorem rsK_len (own : Nat) (ns : List Nat) (k : Nat) : (rsK own ns k).length = k := by simp [rsK]
theorem branchK (own : Nat) (ns : List Nat) (k : Nat) (hk : k ≤ 200) : branchR (rsK own ns k) (labK own ns k) (max (1000 - (k : Int)) (-1)) k = rsK own ns (k + 1) := by
  have hm : max (1000 - (k : Int)) (-1) = 1000 - (k : Int) := by omega
  rw [hm, rsK_succ]
  unfold branchR
  rw [if_neg]
  · rfl
  · unfold topAt
    cases k with
    | zero => simp [rsK]
    | succ k =>
      rw [rsK_succ, List.getLast?_concat]
      simp only [regK, beq_iff_eq]
      omega
theorem atK (own : Nat) (ns : List Nat) (k : Nat) (hk : k ≤ 200) : atR (1000 - (k : Int)) (rsK own ns (k + 1)) (labK own ns (k + 1)) = (rsK own ns k, labK own ns k, [(k : Int)]) := by
  unfold atR
  rw [if_neg (by omega), rsK_succ]
  refine (atGo_go (r := regK own ns k) rfl).trans ?_
  rw [show (rsK own ns k ++ [regK own ns k]).length = (rsK own ns k).length + 1 by simp]
  cases k with
  | zero => rw [show rsK own ns 0 = [] from rfl, atGo_none]; rfl
  | succ k =>
    rw [rsK_succ, atGo_stop]
    · rfl
    · simp only [regK]
      omega
def wasV (own : Nat) (ns : List Nat) (k : Nat) : List Value := (List.range k).map fun m => Value.int .u64 ((labK own ns m : Nat) : Int)
theorem wasV_succ (own : Nat) (ns : List Nat) (k : Nat) : wasV own ns (k + 1) = wasV own ns k ++ [.int .u64 ((labK own ns k : Nat) : Int)] := by
  unfold wasV
  rw [List.range_succ, List.map_append]
  rfl
theorem infoLabel : (Try.prog.info? 23).map (fun i => (i.zero, i.size, i.bytes)) = some (some (.int .u64 0), 1, 8) := by kernel_rfl

set_option maxRecDepth 100000 in
set_option maxHeartbeats 4000000 in
theorem guardEnds_any (own : Nat) (hown : own < M64) (ns : List Nat) (hn : ∀ x ∈ ns, x < M64) (v : Value) (w : World) (hv : IntsAt w .u64 v (natsI ns)) :
    Calls Try.prog 6 #[.int .u64 own, v] w fun e w' => e = .returned (.bool true) ∧ Below w.heap.size w w' := by
  obtain ⟨i0, hi, hz0, hz1, hz2⟩ := info_parts infoLabel
  have HA := fun W => Lib.hid (awake_any W)
  have HN := fun W => Lib.hid (new_any own W)
  have hlen := hv.len
  rw [natsI_len] at hlen
  have HL := Lib.hid hn
  have HV := Lib.hid (fun (W : World) (hb : Below w.heap.size w W) => hv.below hb (Nat.le_refl _))
  obtain ⟨av, cap, rfl⟩ : ∃ av cap, v = .slice av ns.length cap := by
    rcases hv with ⟨rfl, h⟩ | ⟨b, o, cap, rfl, _⟩
    · have : ns = [] := by simpa [natsI] using h
      subst this
      exact ⟨none, 0, rfl⟩
    · rw [natsI_len]
      exact ⟨_, cap, rfl⟩
  clear hv hn
  by_cases hgt : 200 < ns.length
  · go_enter Try.func6, Try.ntmps6
    go_wp2_with fail
    with_reducible refine ((HA _).out).mono ?_
    rintro e w1 ⟨rfl, hb1⟩
    go_wp2
    go_ret
    exact ⟨rfl, hb1⟩
  · have hle : ns.length ≤ 200 := by omega
    clear hgt
    have HLK := Lib.hid (labK_lt own hown HL.out)
    go_enter Try.func6, Try.ntmps6
    go_wp2_with fail
    with_reducible refine ((HA _).out).mono ?_
    rintro e w1 ⟨rfl, hb1⟩
    go_wp2_with fail
    with_reducible refine ((HN _).out).mono ?_
    rintro e w2 ⟨rfl, hw2⟩
    have hI2 : IsG w2 w.heap.size w1.heap.size own [] := by rw [← hw2]; exact isG_new hb1.size hown
    have hb2 : Below w.heap.size w w2 := by rw [← hw2]; exact hb1.alloc hb1.size _
    clear hw2 hb1
    have HI2 := Lib.hid hI2
    have HB2 := Lib.hid hb2
    clear hI2 hb2
    go_wp2
    generalize w1.heap.size = G at HI2 ⊢
    go_loopw [6, 22] (fun wv i wr => ∃ (k : Nat), i = .int .i64 k ∧ k ≤ ns.length ∧ IsG wr w.heap.size G (labK own ns k) (rsK own ns k) ∧ wr.ownsRow w.heap.size 23 1 wv k (wasV own ns k) ∧ Below w.heap.size w wr) (fun _ i _ => ns.length - (intOf i).toNat)
    case atStart => exact ⟨0, rfl, by omega, HI2.out, World.ownsRow_nil _ _ _ _, HB2.out⟩
    case round =>
      obtain ⟨k, rfl, hk, hI, hO, hB⟩ := hrel
      have hszr := hB.size
      by_cases hlt : k < ns.length
      · obtain ⟨b, o, rfl, c0⟩ : ∃ b o, av = some ⟨b, o, none⟩ ∧ wr.cell? ⟨b, o + k, none⟩ = some (.int .u64 (ns[k] : Nat)) := by
          rcases HV.out wr hB with ⟨_, h⟩ | ⟨b, o, _, h, _, _, _, hc⟩
          · have : ns = [] := by simpa [natsI] using h
            subst this
            simp at hlt
          · injection h with h4 h5 h6
            exact ⟨b, o, h4, hc k _ (by unfold natsI; rw [List.getElem?_map, List.getElem?_eq_getElem hlt]; rfl)⟩
        have hx64 := HL.out ns[k] (List.getElem_mem hlt)
        have HS : Hid (labK own ns (k + 1) = labK own ns k ||| ns[k]) := Lib.hid (labK_succ own hlt)
        have hlk := HLK.out k hk
        obtain ⟨x, hx⟩ : ∃ x, ns[k] = x := ⟨_, rfl⟩
        rw [hx] at c0 hx64 HS
        clear hx
        have HP := Lib.hid (pc_of hI)
        have HI := Lib.hid hI
        have HO := Lib.hid hO
        have HB := Lib.hid hB
        clear hI hO hB
        go_wp2_with fail
        with_reducible refine (HP.out).mono ?_
        rintro e w5 ⟨rfl, hw⟩
        subst hw
        go_wp2_with (at_builtin; refine wpList_append_own _ rfl (.tmp 27) (.tmp 30) 45 rfl w.heap.size 23 i0 (.int .u64 0) 1 8 Try.underlying45 hi hz0 hz1 hz2 rfl (by decide) _ _ _ rfl (HO.out.alloc _) ⟨wr.heap.size, 0, none⟩ 1 1 [.int .u64 ((labK own ns k : Nat) : Int)] rfl rfl (cell_new1 rfl) (by simp [Value.oneCell']) (by unfold maxLen; omega) (by omega) (by simp; omega) ?_)
        intro v' w5 hown' hgrow _
        have hT6 := HO.out.alloc (.cells #[.int .u64 ((labK own ns k : Nat) : Int)] 23)
        have kg := (KeepsT.refl [23] _).grown hgrow (fun g hg => .inr (by obtain ⟨cs, hc⟩ := own_row hT6 g hg; exact ⟨_, cs, hc, by simp⟩))
        have hI5 := (HI.out.alloc _).keeps kg (by decide) (by decide)
        have hB5 : Below w.heap.size w w5 := (HB.out.alloc hszr _).grown hgrow (by simp; omega) (fun g hg => (own_lt hT6 g hg).1)
        rw [← wasV_succ] at hown'
        have HBr := Lib.hid (branch_any (1000 - (k : Int)) (k : Int) x hx64 w.heap.size G (labK own ns k) (rsK own ns k) (by rw [rsK_len]; omega) w5 hB5.size hI5)
        rw [branchK own ns k (by omega), ← HS.out] at HBr
        have HO5 := Lib.hid hown'
        have HB5 := Lib.hid hB5
        clear hown' hgrow hT6 kg hI5 hB5
        go_wp2_with fail
        with_reducible refine (HBr.out).mono ?_
        rintro e w6 ⟨rfl, hI6, hk6, hb6⟩
        have hO6 := own_keepsT HO5.out hk6 (by decide)
        have HI6 := Lib.hid hI6
        have HO6 := Lib.hid hO6
        have HB6 := Lib.hid (HB5.out.trans hb6)
        clear hI6 hk6 hb6 hO6
        go_wp2
        go_roundw
        case rel => exact ⟨k + 1, by go_num, by omega, HI6.out, HO6.out, HB6.out⟩
        case measure => simp [intOf]; omega
      · obtain rfl : k = ns.length := by omega
        have HD := Lib.hid (deep_of hI)
        rw [rsK_len] at HD
        obtain ⟨aw, cw, rfl⟩ := slice_of hO
        have HI := Lib.hid hI
        have HO := Lib.hid hO
        have HB := Lib.hid hB
        clear hI hO hB
        go_wp2_with fail
        with_reducible refine (HD.out).mono ?_
        rintro e w5 ⟨rfl, hw⟩
        subst hw
        go_wp2
        go_loopw [9] (fun i wz => ∃ (j : Nat), i = .int .i64 ((j : Int) - 1) ∧ j ≤ ns.length ∧ IsG wz w.heap.size G (labK own ns j) (rsK own ns j) ∧ wz.ownsRow w.heap.size 23 1 (.slice aw ns.length cw) ns.length (wasV own ns ns.length) ∧ Below w.heap.size w wz) (fun i _ => (intOf i + 1).toNat)
        case atStart => exact ⟨ns.length, rfl, by omega, HI.out, HO.out, HB.out⟩
        case round =>
          obtain ⟨j, rfl, hj, hI, hO, hB⟩ := hrel
          cases j with
          | zero =>
            have HD := Lib.hid (deep_of hI)
            have HP := Lib.hid (pc_of hI)
            rw [labK_zero] at HP
            rw [rsK_len] at HD
            have HB9 := Lib.hid hB
            clear hI hO hB
            go_wp2_with fail
            refine (HD.out).mono ?_
            rintro e w5 ⟨rfl, hw⟩
            subst hw
            go_wp2_with fail
            refine (HP.out).mono ?_
            rintro e w5 ⟨rfl, hw⟩
            subst hw
            go_wp2
            go_ret
            exact ⟨by simp, HB9.out⟩
          | succ j =>
            have hjn : j < ns.length := by omega
            have e1 : ((j + 1 : Nat) : Int) - 1 = j := by omega
            rw [e1]
            have HAt := Lib.hid (at_any (1000 - (j : Int)) (by omega) w.heap.size G (labK own ns (j + 1)) (rsK own ns (j + 1)) (by rw [rsK_len]; omega) wr hB.size hI)
            rw [atK own ns j (by omega)] at HAt
            have HO1 := Lib.hid hO
            have HB1 := Lib.hid hB
            clear hI hO hB e1
            go_wp2_with fail
            with_reducible refine (HAt.out).mono ?_
            rintro e w4 ⟨vt, rfl, hI4, hT4, hk4, hb4⟩
            simp only at hI4 hT4
            obtain ⟨g, cp, rfl, ht0⟩ := ints_one hT4
            have hO4 := own_keepsT HO1.out hk4 (by decide)
            obtain ⟨gw, rfl, hw0⟩ : ∃ gw, aw = some ⟨gw, 0, none⟩ ∧ w4.cell? ⟨gw, j, none⟩ = some (.int .u64 ((labK own ns j : Nat) : Int)) := by
              rcases own_shape hO4 with ⟨_, h, _⟩ | ⟨gw, cap', cs, h, _⟩
              · omega
              · injection h with h4 h5 h6
                subst h4
                refine ⟨gw, rfl, ?_⟩
                rw [own_cell hO4 j (by simpa [wasV] using hjn)]
                simp [wasV]
            have hj0 : (0 : Int) ≤ (j : Int) := by omega
            have hj1 : (j : Int) < (ns.length : Int) := by omega
            have hB4 := HB1.out.trans hb4
            have HI4 := Lib.hid hI4
            have HO4 := Lib.hid hO4
            have HB4 := Lib.hid hB4
            clear hI4 hO4 hB4 hb4 hk4 hT4
            go_wp2
            go_quiet ((go_at_call 13; exact quiet_left (pc_of (HI4.out.keeps ((KeepsT.refl [] _).drewN _) (by simp) (by simp)))))
            go_wp2
            go_roundw
            case rel => exact ⟨j, rfl, by omega, HI4.out.keeps ((KeepsT.refl [] _).drewN _) (by simp) (by simp), own_keepsT HO4.out ((KeepsT.refl [] _).drewN _) (by simp), below_drewN HB4.out _⟩
            case measure => simp [intOf]
theorem guardEnds_u (l : Int) (hl : 0 ≤ l ∧ l ≤ 18446744073709551615) (v : Value) (zs : List Int) (w : World) (hv : IntsAt w .u64 v zs) (hz : ∀ n ∈ zs, (Lit.int .u64 n).wf = true) :
    Calls Try.prog 6 #[.int .u64 l, v] w fun e w' => e = .returned (.bool true) ∧ Below w.heap.size w w' := by
  obtain ⟨n, rfl⟩ : ∃ n : Nat, l = n := ⟨l.toNat, by omega⟩
  obtain ⟨ns, rfl, hn⟩ := nats_of hz
  exact guardEnds_any n (by unfold M64; omega) ns hn v w hv
end GuardD
end Go.Proofs.Ytnlblmdmhfahpaa
