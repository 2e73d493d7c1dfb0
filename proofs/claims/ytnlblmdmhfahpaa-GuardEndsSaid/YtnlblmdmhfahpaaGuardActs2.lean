/- The walk of GuardActs. -/
import Derived.Test.YtnlblmdmhfahpaaGuardActs
import Derived.Deep.RegionHeld3
namespace Go.Proofs.Ytnlblmdmhfahpaa
open Go.RowKit ObjM Go.ChangeShapes Go.WideShapes Go.Deep
namespace GuardD
open LabelM LabelD GuardM

theorem isR_new {w : World} {B l : Nat} (hB : B ≤ w.heap.size) (hl : l < M64) : IsR (w.alloc (.cells #[.int .u64 l, .slice none 0 0] 31)) B w.heap.size l [] :=
  ⟨_, Has.new w _ [.int .u64 l, .slice none 0 0], World.ownsRow_nil _ _ _ _, hB, hl, fun _ h => by cases h⟩
theorem slice_of {w : World} {base : Nat} {e : TypeId} {size : Nat} {v : Value} {n : Nat} {xs : List Value} (h : w.ownsRow base e size v n xs) : ∃ a cap, v = .slice a n cap := by
  rcases own_shape h with ⟨rfl, rfl, _⟩ | ⟨g, cap, cs, rfl, _⟩
  · exact ⟨_, _, rfl⟩
  · exact ⟨_, _, rfl⟩
theorem IsR.cells {w : World} {B R lab : Nat} {rs : List Reg} (h : IsR w B R lab rs) : ∃ a cap, w.cell? ⟨R, 0, none⟩ = some (.int .u64 lab) ∧ w.cell? ⟨R, 1, none⟩ = some (.slice a rs.length cap) ∧ R < w.heap.size := by
  obtain ⟨sv, hG, hO, -⟩ := h
  obtain ⟨a, cap, rfl⟩ := slice_of hO
  exact ⟨a, cap, by have := hG.cell 0; simpa using this, by have := hG.cell 1; simpa using this, hG.lt⟩

theorem atGo_sum {j : Int} : ∀ (n : Nat) (lab : Nat) (rs : List Reg) (tags : List Int), (atGo j n rs lab tags).2.2.length + (atGo j n rs lab tags).1.length = tags.length + rs.length
  | 0, _, _, _ => rfl
  | n + 1, lab, rs, tags => by
    rcases last_split rs with rfl | ⟨pre, r, rfl⟩
    · rw [atGo_none]
    · by_cases hr : r.join = j
      · rw [atGo_go hr, atGo_sum n r.was pre (tags ++ [r.tag])]
        simp
        omega
      · rw [atGo_stop hr]
theorem atR_sum (j : Int) (rs : List Reg) (lab : Nat) : (atR j rs lab).2.2.length + (atR j rs lab).1.length = rs.length := by
  unfold atR
  split
  · simp
  · rw [atGo_sum]; simp
theorem row_sh {w : World} {base : Nat} {v : Value} {tags : List Int} (h : w.ownsRow base 3 1 v tags.length (intsV tags)) :
    (v = .slice none 0 0 ∧ tags.length = 0) ∨ ∃ g cap, v = .slice (some ⟨g, 0, none⟩) tags.length cap ∧ ∀ (j : Nat) (hj : j < tags.length), w.cell? ⟨g, j, none⟩ = some (.int .i64 tags[j]) := by
  have h' := h
  rcases own_shape h with ⟨rfl, h, _⟩ | ⟨g, cap, cs, rfl, _⟩
  · exact .inl ⟨rfl, h⟩
  · refine .inr ⟨g, cap, rfl, fun j hj => ?_⟩
    rw [own_cell h' j (by simpa [intsV] using hj)]
    simp [intsV]

set_option maxRecDepth 100000 in
set_option maxHeartbeats 4000000 in
theorem guardActs_any (own may : Nat) (hown : own < M64) (hmay : may < M64) (la : List ActM) (hl : ∀ a ∈ la, a.l < M64) (v : Value) (w : World) (hv : ActsAt w v la) :
    Calls Try.prog 3 #[.int .u64 own, v, .int .u64 may] w fun e w' => e = .returned (.bool true) ∧ Below w.heap.size w w' := by
  have HA := fun W => Lib.hid (awake_any W)
  have HN := fun W => Lib.hid (new_any own W)
  have hlen := hv.len
  have HL := Lib.hid hl
  have HV := Lib.hid (fun (W : World) (hb : Below w.heap.size w W) => hv.below hb)
  clear hl
  obtain ⟨av, cap, rfl⟩ : ∃ av cap, v = .slice av la.length cap := by
    rcases hv with ⟨rfl, rfl⟩ | ⟨b, o, cap, rfl, _⟩
    · exact ⟨none, 0, rfl⟩
    · exact ⟨_, cap, rfl⟩
  clear hv
  by_cases hgt : 200 < la.length
  · go_enter Try.func3, Try.ntmps3
    go_wp2_with fail
    with_reducible refine ((HA _).out).mono ?_
    rintro e w1 ⟨rfl, hb1⟩
    go_wp2
    go_ret
    exact ⟨rfl, hb1⟩
  · have hle : la.length ≤ 200 := by omega
    clear hgt
    go_enter Try.func3, Try.ntmps3
    go_wp2_with fail
    with_reducible refine ((HA _).out).mono ?_
    rintro e w1 ⟨rfl, hb1⟩
    go_wp2_with fail
    with_reducible refine ((HN _).out).mono ?_
    rintro e w2 ⟨rfl, hw2⟩
    have hI2 : IsG w2 w.heap.size w1.heap.size own [] := by rw [← hw2]; exact isG_new hb1.size hown
    have hb2 : Below w.heap.size w w2 := by rw [← hw2]; exact hb1.alloc hb1.size _
    clear hw2 hb1
    have hR3 := isR_new (w := w2) (B := w.heap.size) hb2.size hown
    have hI3 := hI2.alloc (.cells #[.int .u64 (own : Int), .slice none 0 0] 31)
    have hb3 := hb2.alloc hb2.size (.cells #[.int .u64 (own : Int), .slice none 0 0] 31)
    have HI3 := Lib.hid hI3
    have HR3 := Lib.hid hR3
    have HB3 := Lib.hid hb3
    clear hI2 hI3 hR3 hb2 hb3
    go_wp2
    generalize w1.heap.size = G at HI3 ⊢
    generalize w2.heap.size = R at HR3 ⊢
    generalize World.alloc w2 _ = w3 at HI3 HR3 HB3 ⊢
    go_loopw [28] (fun i wr => ∃ (k lab : Nat) (rs : List Reg), i = .int .i64 k ∧ k ≤ la.length ∧ IsG wr w.heap.size G lab rs ∧ IsR wr w.heap.size R lab rs ∧ Below w.heap.size w wr ∧ rs.length ≤ k) (fun i _ => la.length - (intOf i).toNat)
    case atStart => exact ⟨0, own, [], rfl, by omega, HI3.out, HR3.out, HB3.out, Nat.le_refl _⟩
    case round =>
      obtain ⟨k, lab, rs, rfl, hk, hI, hR, hB, hrk⟩ := hrel
      by_cases hlt : k < la.length
      · obtain ⟨b, o, rfl, hcells⟩ : ∃ b o, av = some ⟨b, o, none⟩ ∧ ActCells wr b o k la[k] := by
          rcases HV.out wr hB with ⟨_, h⟩ | ⟨b, o, _, h, _, _, _, hc⟩
          · rw [h] at hlt
            simp at hlt
          · injection h with h4 h5 h6
            exact ⟨b, o, h4, hc k _ (List.getElem?_eq_getElem hlt)⟩
        have hszr := hB.size
        have hal := HL.out la[k] (List.getElem_mem hlt)
        obtain ⟨⟨ad, an, ap, at'⟩, hx⟩ : ∃ x, la[k] = x := ⟨_, rfl⟩
        rw [hx] at hcells hal
        clear hx
        obtain ⟨c0, c1, c2, c3⟩ := hcells
        simp only at c0 c1 c2 c3 hal
        have hblt : b < wr.heap.size := World.block_lt_of_cell? wr _ c0
        have hrs : rs.length ≤ 1000000 := by omega
        have hixx : (k : Int) < (la.length : Int) := by omega
        have HR0 := Lib.hid hR
        have HI0 := Lib.hid hI
        have HB0 := Lib.hid hB
        clear hI hR hB
        by_cases hd : ad = 0
        · subst hd
          have hbx : Has (wr.alloc (.cells #[.int .i64 0, .int .u64 (an : Int), .int .i64 ap, .int .i64 at'] 33)) wr.heap.size 33 [.int .i64 0, .int .u64 (an : Int), .int .i64 ap, .int .i64 at'] := Has.new _ _ _
          have HBr := Lib.hid (branch_any ap at' an hal w.heap.size G lab rs hrs (wr.alloc (.cells #[.int .i64 0, .int .u64 (an : Int), .int .i64 ap, .int .i64 at'] 33)) (by simp; omega) (HI0.out.alloc _))
          have HBX := Lib.hid hbx
          clear hbx
          go_wp2_with fail
          with_reducible refine (HBr.out).mono ?_
          rintro e w4 ⟨rfl, hI4, hk4, hb4⟩
          have hR4 : IsR w4 w.heap.size R lab rs := (HR0.out.alloc _).keeps hk4 (by decide) (by decide)
          have hbx4 := HBX.out.keepsT hk4 (by decide)
          have hB4 := (HB0.out.alloc hszr _).trans hb4
          have HBr2 := Lib.hid (refBranch_any ap at' an hal w.heap.size R lab rs hrs w4 hB4.size hR4)
          have b1 := hbx4.cell 1
          have b2 := hbx4.cell 2
          have b3 := hbx4.cell 3
          have hlx := hbx4.lt
          simp at b1 b2 b3
          have HI4 := Lib.hid hI4
          have HB4 := Lib.hid hB4
          clear hI4 hk4 hb4 hR4 hbx4 hB4
          go_wp2_with fail
          with_reducible refine (HBr2.out).mono ?_
          rintro e w5 ⟨rfl, hR5, hk5, hb5⟩
          have hI5 := HI4.out.keeps hk5 (by decide) (by decide)
          have hB5 := HB4.out.trans hb5
          clear b1 b2 b3 hlx hk5 hb5
          have hr5 := branchR_len rs lab (max ap (-1)) at'
          generalize branchR rs lab (max ap (-1)) at' = rs5 at hI5 hR5 hr5
          generalize (lab ||| an) = lab5 at hI5 hR5
          obtain ⟨a5, cap5, d0, d1, hRl⟩ := hR5.cells
          have hm5 : lab5 < M64 := by obtain ⟨_, _, _, _, h, _⟩ := hI5; exact h
          have HI5 := Lib.hid hI5
          have HR5 := Lib.hid hR5
          have HB5 := Lib.hid hB5
          clear hI5 hR5 hB5
          go_wp2
          go_quiet ((first | (go_at_call 13; exact quiet_left (pc_of (HI5.out.keeps ((KeepsT.refl [] _).drewN _) (by simp) (by simp)))) | (go_at_call 14; exact quiet_left (deep_of (HI5.out.keeps ((KeepsT.refl [] _).drewN _) (by simp) (by simp)))) | (go_at_call 15; exact quiet_left (may_any _ lab5 may hm5 hmay _ (pc_of (HI5.out.keeps ((KeepsT.refl [] _).drewN _) (by simp) (by simp))))) | (go_at_call 16; exact quiet_left (refFlows_any lab5 may hm5 hmay _))))
          go_wp2
          go_roundw
          case rel => exact ⟨k + 1, lab5, rs5, by go_num, by omega, HI5.out.keeps ((KeepsT.refl [] _).drewN _) (by simp) (by simp), HR5.out.keeps ((KeepsT.refl [] _).drewN _) (by simp) (by simp), below_drewN HB5.out _, by omega⟩
          case measure => simp [intOf]; omega
        · have hdb : (ad == 0) = false := by simpa using hd
          have hbx : Has (wr.alloc (.cells #[.int .i64 ad, .int .u64 (an : Int), .int .i64 ap, .int .i64 at'] 33)) wr.heap.size 33 [.int .i64 ad, .int .u64 (an : Int), .int .i64 ap, .int .i64 at'] := Has.new _ _ _
          have hI1 := HI0.out.alloc (.cells #[.int .i64 ad, .int .u64 (an : Int), .int .i64 ap, .int .i64 at'] 33)
          have hR1 := HR0.out.alloc (.cells #[.int .i64 ad, .int .u64 (an : Int), .int .i64 ap, .int .i64 at'] 33)
          have hB1 := HB0.out.alloc hszr (.cells #[.int .i64 ad, .int .u64 (an : Int), .int .i64 ap, .int .i64 at'] 33)
          have HBX := Lib.hid hbx
          have HI1 := Lib.hid hI1
          have HR1 := Lib.hid hR1
          have HB1 := Lib.hid hB1
          clear hbx hd hI1 hR1 hB1
          go_wp2
          generalize wr.heap.size = X at HBX ⊢
          generalize World.alloc wr _ = w4 at HBX HI1 HR1 HB1 ⊢
          have b2 := HBX.out.cell 2
          have hlx := HBX.out.lt
          simp at b2
          have HAt := Lib.hid (at_all ap w.heap.size G lab rs hrs w4.drew HB1.out.size HI1.out.drew)
          go_region_held3 (fun w' => w'.cell? ⟨X, 2, none⟩ = some (.int .i64 ap)) (first | go_keep | assumption)
            (first
              | (go_at_call 11
                 with_reducible refine (HAt.out).mono ?_
                 rintro e w5 ⟨vx, rfl, hI5, hT5, hk5, hb5⟩
                 have bx5 : w5.cell? ⟨X, 2, none⟩ = some (.int .i64 ap) := by have := (HBX.out.drew.keepsT hk5 (by decide)).cell 2; simpa using this
                 have hB5 := HB1.out.drew.trans hb5
                 have HAr := Lib.hid (refAt_any ap w.heap.size R lab rs hrs w5 hB5.size ((HR1.out.keeps ((KeepsT.refl [] w4).drew) (by simp) (by simp)).keeps hk5 (by decide) (by decide)))
                 have HI5 := Lib.hid hI5
                 have HT5 := Lib.hid hT5
                 have HB5 := Lib.hid hB5
                 have HX5 := Lib.hid (HBX.out.drew.keepsT hk5 (by decide))
                 clear hI5 hT5 hk5 hb5 hB5 HAt)
              | (go_at_call 12
                 with_reducible refine (HAr.out).mono ?_
                 rintro e w6 ⟨vy, rfl, hR6, hT6, hk6, hb6⟩
                 have bx6 : w6.cell? ⟨X, 2, none⟩ = some (.int .i64 ap) := by have := (HX5.out.keepsT hk6 (by decide)).cell 2; simpa using this
                 clear HAr))
          have hI6 := HI5.out.keeps hk6 (by decide) (by decide)
          have hT6' := own_keepsT HT5.out hk6 (by decide)
          have hB6 := HB5.out.trans hb6
          have hlen5 := atR_sum ap rs lab
          clear hk6 hb6 bx5 bx6 b2 HX5 HT5
          generalize atR ap rs lab = F at hI6 hR6 hT6 hT6' hlen5
          obtain ⟨rs5, lab5, tags⟩ := F
          simp only at hI6 hR6 hT6 hT6' hlen5
          have hr5 : rs5.length ≤ rs.length + 1 := by omega
          have htl : tags.length ≤ 1000000 := by omega
          have R1 := row_sh hT6'
          have R2 := row_sh hT6
          have HI6 := Lib.hid hI6
          have HR6 := Lib.hid hR6
          have HB6 := Lib.hid hB6
          clear hI6 hR6 hB6 hT6 hT6'
          by_cases h0 : tags.length = 0
          · obtain rfl : tags = [] := List.length_eq_zero_iff.1 h0
            simp only [List.length_nil] at R1 R2
            clear h0 htl hlen5
            rcases R1 with ⟨rfl, -⟩ | ⟨x1, y1, rfl, -⟩
            all_goals
              rcases R2 with ⟨rfl, -⟩ | ⟨x2, y2, rfl, -⟩
              all_goals
                go_wp2
                go_loop [66] (fun i => i = .int .i64 0) (fun _ => 0)
                case atStart => rfl
                case round =>
                  obtain rfl := hrel
                  have hI5 := HI6.out
                  have hR5 := HR6.out
                  have hB5 := HB6.out
                  obtain ⟨a5, cap5, d0, d1, hRl⟩ := hR5.cells
                  have hm5 : lab5 < M64 := by obtain ⟨_, _, _, _, h, _⟩ := hI5; exact h
                  have HI5 := Lib.hid hI5
                  have HR5 := Lib.hid hR5
                  have HB5 := Lib.hid hB5
                  clear hI5 hR5 hB5
                  go_wp2
                  go_quiet ((first | (go_at_call 13; exact quiet_left (pc_of (HI5.out.keeps ((KeepsT.refl [] _).drewN _) (by simp) (by simp)))) | (go_at_call 14; exact quiet_left (deep_of (HI5.out.keeps ((KeepsT.refl [] _).drewN _) (by simp) (by simp)))) | (go_at_call 15; exact quiet_left (may_any _ lab5 may hm5 hmay _ (pc_of (HI5.out.keeps ((KeepsT.refl [] _).drewN _) (by simp) (by simp))))) | (go_at_call 16; exact quiet_left (refFlows_any lab5 may hm5 hmay _))))
                  go_wp2
                  go_roundw
                  case rel => exact ⟨k + 1, lab5, rs5, by go_num, by omega, HI5.out.keeps ((KeepsT.refl [] _).drewN _) (by simp) (by simp), HR5.out.keeps ((KeepsT.refl [] _).drewN _) (by simp) (by simp), below_drewN HB5.out _, by omega⟩
                  case measure => simp [intOf]; omega
          · rcases R1 with ⟨-, h⟩ | ⟨x1, y1, rfl, C1⟩
            · exact absurd h h0
            rcases R2 with ⟨-, h⟩ | ⟨x2, y2, rfl, C2⟩
            · exact absurd h h0
            have D1 := Lib.hid C1
            have D2 := Lib.hid C2
            clear C1 C2 h0 hlen5
            go_wp2
            go_loopw [66] (fun i wz => ∃ (j n : Nat), i = .int .i64 j ∧ j ≤ tags.length ∧ wz = w6.drewN n) (fun i _ => tags.length - (intOf i).toNat)
            case atStart => exact ⟨0, 0, rfl, by omega, rfl⟩
            case round =>
              obtain ⟨j, n, rfl, hj, rfl⟩ := hrel
              by_cases hjt : j < tags.length
              · have d1 := D1.out j hjt
                have d2 := D2.out j hjt
                obtain ⟨z, hz⟩ : ∃ z, tags[j] = z := ⟨_, rfl⟩
                rw [hz] at d1 d2
                clear hz
                go_wp2
                go_quiet (fail)
                go_wp2
                go_roundw
                case rel => exact ⟨j + 1, _, by go_num, by omega, rfl⟩
                case measure => simp [intOf]; omega
              · obtain rfl : j = tags.length := by omega
                have hI5 := HI6.out
                have hR5 := HR6.out
                have hB5 := HB6.out
                obtain ⟨a5, cap5, d0, d1, hRl⟩ := hR5.cells
                have hm5 : lab5 < M64 := by obtain ⟨_, _, _, _, h, _⟩ := hI5; exact h
                have HI5 := Lib.hid hI5
                have HR5 := Lib.hid hR5
                have HB5 := Lib.hid hB5
                clear hI5 hR5 hB5
                go_wp2
                go_quiet ((first | (go_at_call 13; exact quiet_add_left (pc_of (HI5.out.keeps ((KeepsT.refl [] _).drewN _) (by simp) (by simp)))) | (go_at_call 14; exact quiet_add_left (deep_of (HI5.out.keeps ((KeepsT.refl [] _).drewN _) (by simp) (by simp)))) | (go_at_call 15; exact quiet_add_left (may_any _ lab5 may hm5 hmay _ (pc_of (HI5.out.keeps ((KeepsT.refl [] _).drewN _) (by simp) (by simp))))) | (go_at_call 16; exact quiet_add_left (refFlows_any lab5 may hm5 hmay _))))
                go_wp2
                go_roundw
                case rel => exact ⟨k + 1, lab5, rs5, by go_num, by omega, HI5.out.keeps ((KeepsT.refl [] _).drewN _) (by simp) (by simp), HR5.out.keeps ((KeepsT.refl [] _).drewN _) (by simp) (by simp), below_drewN HB5.out _, by omega⟩
                case measure => simp [intOf]; omega
      · obtain rfl : k = la.length := by omega
        have HB0 := Lib.hid hB
        clear hI hR hB
        go_wp2
        go_ret
        exact ⟨rfl, HB0.out⟩
theorem guardActs_u {H : Type} {enc : TypeId × Value → H} (l m : Int) (hl : 0 ≤ l ∧ l ≤ 18446744073709551615) (hm : 0 ≤ m ∧ m ≤ 18446744073709551615) {r : Reach} {b0 : Nat} (v1 : Value) {d : DataW H} {ps : List MemPlace} {sp : Nat → Bool} (w : World) (g1 : Value.okWide Try.prog w r b0 24 v1)
    (h1 : DataW.Trod enc Try.prog w 0 sp true 24 v1 d ps) :
    Calls Try.prog 3 #[.int .u64 l, v1, .int .u64 m] w fun e w' => e = .returned (.bool true) ∧ Below w.heap.size w w' := by
  obtain ⟨n, rfl⟩ : ∃ n : Nat, l = n := ⟨l.toNat, by omega⟩
  obtain ⟨k, rfl⟩ : ∃ n : Nat, m = n := ⟨m.toNat, by omega⟩
  obtain ⟨la, hv, hla⟩ := open_acts g1 h1
  exact guardActs_any n k (by unfold M64; omega) (by unfold M64; omega) la hla v1 w hv
end GuardD
end Go.Proofs.Ytnlblmdmhfahpaa
