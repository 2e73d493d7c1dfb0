/- The document's strings. -/
import Derived.Test.YthlclmjcdpffbaaDoorLex16
import Derived.Laws.IdiomStrings
namespace Go.Proofs.YthlclmjcdpffbaaDoor
open Go.RowKit ObjM Go.Maps
namespace LexD

theorem step_call1 {P : Program} {ops : Array Oper} {o : Oper} {a : Act} {w : World} {K : Act → World → Prop} {Q : Exit → Act → World → Prop} {E : Prop}
    (hg : o.guard = none) (n : Nat) (x : Operand) (t : TypeId) (hop : o.op = Op.call { callee := Callee.value (Operand.func n), args := #[x], argTypes := #[t] })
    (V v : Value) (hx : a.eval x = V) (hcf : (callFunc n #[V]).run P w = .ok (.enter n #[V]) w) (hc : Calls P n #[V] w fun e w' => e = .returned v ∧ w = w') (hK : K (a.put o.dst v) w) :
    if Region.wanted o (yielded ops a.tmps) = true then Oper.wp P o a w K Q else E := by
  have hw : Region.wanted o (yielded ops a.tmps) = true := by simp [Region.wanted, hg]
  rw [if_pos hw]
  unfold Oper.wp
  have hrun : (execOp a.eval o).run P w = .ok (.enter n #[V]) w := by
    have hf : a.eval (Operand.func n) = .func (.func n) #[] #[] := rfl
    simp [execOp, hop, resolve, invoke, hx, hf, Deferred.ofValue]
    exact hcf
  rw [hrun]
  refine Calls.mono hc fun e w' he => ?_
  obtain ⟨rfl, rfl⟩ := he
  exact hK
theorem own_sl {w : World} {base : Nat} {e : TypeId} {size : Nat} {v : Value} {n : Nat} {xs : List Value} (h : w.ownsRow base e size v n xs) : ∃ a cap, v = .slice a n cap := by
  rcases h.2 with ⟨rfl, rfl⟩ | ⟨g, cap, cur, rfl, _⟩
  · exact ⟨none, 0, rfl⟩
  · exact ⟨_, _, rfl⟩
theorem conv_own {w : World} {B : Nat} {v : Value} {l : List UInt8} (h : w.ownsRow B 5 1 v l.length (Lib.byteCells l)) :
    (convert 49 9 v).run Tryd.prog w = .ok (.string (bytes l)) w := by
  rcases h.2 with ⟨rfl, h0⟩ | ⟨g, cap, cur, rfl, _⟩
  · have : l = [] := List.length_eq_zero_iff.1 h0
    subst this
    rw [run_convert_bytes_string w _ _ 5 none 0 0 Tryd.underlying49 Tryd.underlying5 Tryd.underlying9]
    rfl
  · have hc : ∀ j (hj : j < l.length), w.cell? ((⟨g, 0, none⟩ : Addr).add j) = some (.int .u8 (l[j].toNat : Int)) := fun j hj => by
      have h2 := own_cell h j (by simpa [Lib.byteCells] using hj)
      rw [TraceD.addr_add, Nat.zero_add, h2]
      simp [Lib.byteCells]
    exact run_convert_bytes_back w _ _ 5 ⟨g, 0, none⟩ cap l Tryd.underlying49 Tryd.underlying5 Tryd.underlying9 hc
/-- What the document's reader of strings comes to. -/
inductive TextIs (w : World) (s : ByteArray) : Ending → World → Prop
  | yes (x : List UInt8) (n : Nat) (w' : World) : bodyK 0 (s.data.toList.drop 1) = some (x, n) → Below w.heap.size w w' → TextIs w s (.returned (.tuple #[.string (bytes x), .int .i64 ((n : Int) + 1), .bool true])) w'
  | no (w' : World) : bodyK 0 (s.data.toList.drop 1) = none → Below w.heap.size w w' → TextIs w s (.returned (.tuple #[.string ⟨#[]⟩, .int .i64 0, .bool false])) w'
theorem TextIs.no' {w w' : World} {s : ByteArray} {j : Nat} {acc : List UInt8} {c : UInt8} {r : List UInt8} (h : BodyAt s.data.toList 0 j acc) (e : s.data.toList.drop (0 + 1 + j) = c :: r) (hc : c ≠ 34) (h2 : pieceV (c :: r) = none) (hb : Below w.heap.size w w') : TextIs w s (.returned (.tuple #[.string ⟨#[]⟩, .int .i64 0, .bool false])) w' :=
  .no _ (h.no (by rw [e]; exact body_none rfl hc h2)) hb
theorem infoByte2 : (Tryd.prog.info? 5).map (fun i => (i.zero, i.size, i.bytes)) = some (some (.int .u8 0), 1, 1) := by kernel_rfl
theorem cells_snoc (acc : List UInt8) (b : UInt8) (n : Int) (h : n = (b.toNat : Int)) : Lib.byteCells acc ++ [.int .u8 n] = Lib.byteCells (acc ++ [b]) := by
  subst h
  simp [Lib.byteCells]
theorem ofNat_ne {d : Nat} (hd : d < 256) {k : Nat} (hk : k < 256) (h : d ≠ k) : ¬ UInt8.ofNat d = UInt8.ofNat k := fun e => by
  have := congrArg UInt8.toNat e
  simp at this
  omega
set_option maxRecDepth 100000 in
set_option maxHeartbeats 8000000 in
theorem refText_any (s : ByteArray) (h0 : 0 < s.size) (hs : s.size ≤ 1000000) (w : World) : Calls Tryd.prog 44 #[.string s] w (TextIs w s) := by
  obtain ⟨i0, hi, hz0, hz1, hz2⟩ := info_parts infoByte2
  have HIf := Lib.hid (⟨hi, hz0, hz1, hz2⟩ : _ ∧ _ ∧ _ ∧ _)
  have HDg := fun (r : Int) (h1 : 0 ≤ r) (h2 : r ≤ 255) W => Lib.hid (NumD.refDigit_any r h1 h2 W)
  clear hi hz0 hz1 hz2
  go_enter Tryd.func44, Tryd.ntmps44
  go_wp2
  go_loopw [5, 6] (fun o i wr => ∃ (q j : Nat) (acc : List UInt8), i = .int .i64 (q : Int) ∧ q = 0 + 1 + j ∧ q ≤ s.size ∧ acc.length ≤ j ∧ Below w.heap.size w wr ∧ Hid (wr.ownsRow w.heap.size 5 1 o acc.length (Lib.byteCells acc)) ∧ Hid (BodyAt s.data.toList 0 j acc)) (fun _ i _ => s.size - (intOf i).toNat)
  case atStart => exact ⟨1, 0, [], rfl, rfl, by omega, by simp, Below.refl _ _, Lib.hid (World.ownsRow_nil _ _ _ _), Lib.hid (BodyAt.zero s.data.toList 0)⟩
  case round =>
    obtain ⟨q, j, acc, rfl, hqj, hq, hacc, hBr, HO, HA⟩ := hrel
    have HQ := Lib.hid hqj
    have HBr := Lib.hid hBr
    have hszr := hBr.size
    have hjs : acc.length ≤ 1000000 := by omega
    clear hBr
    by_cases hlt : q < s.size
    · have hi1 : (q : Int) < (s.size : Int) := by omega
      have hcq0 := drop_at hlt
      have hcq : s.data.toList.drop (0 + 1 + j) = s[q] :: s.data.toList.drop (q + 1) := by rw [← hqj]; exact hcq0
      obtain ⟨m, hm⟩ : ∃ n, s[q].toNat = n := ⟨_, rfl⟩
      have hU : s[q] = UInt8.ofNat m := by rw [← hm]; simp
      have hm256 : m < 256 := by rw [← hm]; exact UInt8.toNat_lt _
      rw [hU] at hcq
      have HC := Lib.hid hcq
      clear hcq0 hcq hU hqj
      by_cases h34 : m = 34
      · subst h34
        have HY := Lib.hid (HA.out.yes HC.out rfl)
        have HCv := Lib.hid (conv_own HO.out)
        obtain ⟨av, cv, rfl⟩ := own_sl HO.out
        have hcv := HCv.out
        clear HA HC HDg HIf
        go_wp2
        go_ret3
        have he : (q : Int) + 1 = (((j + 1 : Nat) : Int)) + 1 := by have := HQ.out; omega
        rw [he]
        exact .yes acc (j + 1) _ HY.out HBr.out
      · have h34b : ((m : Int) == 34) = false := by simp; omega
        have hne34 : UInt8.ofNat m ≠ 34 := ofNat_ne hm256 (k := 34) (by omega) h34
        by_cases hbad : m < 32 ∨ 126 < m
        · have HX := fun W (hb : Below w.heap.size w W) => Lib.hid (TextIs.no' HA.out HC.out hne34 (piece_bad (by rw [UInt8.toNat_ofNat']; omega)) hb)
          have hbad2 : ((m : Int) < 32) ∨ (¬ ((m : Int) < 32) ∧ (126 : Int) < (m : Int)) := by omega
          clear hbad HA HC HDg HIf hne34
          rcases hbad2 with hb1 | ⟨hb1, hb2⟩
          all_goals
            go_wp2
            go_ret3
            exact (HX _ HBr.out).out
        · have hb1 : ¬ ((m : Int) < 32) := by omega
          have hb2 : ¬ (126 : Int) < (m : Int) := by omega
          by_cases h92 : m = 92
          · subst h92
            -- BACKSLASH
            by_cases hl1 : q + 1 < s.size
            · have hi2 : (q : Int) + 1 < (s.size : Int) := by omega
              have hcd := drop_at hl1
              obtain ⟨d, hd⟩ : ∃ n, s[q + 1].toNat = n := ⟨_, rfl⟩
              have hdU : s[q + 1] = UInt8.ofNat d := by rw [← hd]; simp
              have hd256 : d < 256 := by rw [← hd]; exact UInt8.toNat_lt _
              rw [hdU] at hcd
              have HC2 : Hid (s.data.toList.drop (0 + 1 + j) = 92 :: UInt8.ofNat d :: s.data.toList.drop (q + 1 + 1)) := Lib.hid (by rw [HC.out, hcd]; rfl)
              clear hcd hdU
              by_cases d1 : d = 110
              · subst d1
                have HStep := Lib.hid (HA.out.step HC.out hne34 (b := 10) (n := 2) (by rw [HC2.out]; exact piece_n))
                clear HA HC HC2 HDg hne34
                obtain ⟨hi, hz0, hz1, hz2⟩ := HIf.out
                go_wp2_with (at_builtin; refine wpList_append_own _ rfl _ _ 49 rfl w.heap.size 5 i0 (.int .u8 0) 1 1 Tryd.underlying49 hi hz0 hz1 hz2 rfl (by decide) _ _ _ rfl (HO.out.alloc _) ⟨wr.heap.size, 0, none⟩ 1 1 [.int .u8 10] rfl rfl (fun j u h => TraceD.one_cell wr 5 _ j u h) (by simp [Value.oneCell']) ?c3 ?c4 ?c5 ?_)
                case c3 => unfold maxLen; omega
                case c4 => omega
                case c5 => first | omega | (simp; omega)
                intro v' w2 hown' hgrow _
                have HO2 : Hid (w2.ownsRow w.heap.size 5 1 v' (acc ++ [10]).length (Lib.byteCells (acc ++ [10]))) := Lib.hid (by
                  rw [← cells_snoc acc (10) 10 (by rfl), List.length_append]
                  exact hown')
                have HB2 : Hid (Below w.heap.size w w2) := Lib.hid ((HBr.out.alloc hszr _).grown hgrow (by simp; omega) (fun k hk => (HO.out.lt k hk).1))
                obtain ⟨av, cv, rfl⟩ := own_sl HO2.out
                clear hown' hgrow hi hz0 hz1 hz2 HIf
                go_wp2
                go_roundw
                case rel => exact ⟨q + 2, j + 2, acc ++ [10], by go_num, by have := HQ.out; omega, by omega, by simp; omega, HB2.out, HO2, HStep⟩
                case measure => simp [intOf]; omega
              have d1b : ((d : Int) == 110) = false := by simp; omega
              by_cases d2 : d = 92 ∨ d = 34
              · have HStep := Lib.hid (HA.out.step HC.out hne34 (b := UInt8.ofNat d) (n := 2) (by rw [HC2.out]; exact piece_q (by rcases d2 with rfl | rfl; exact .inl rfl; exact .inr rfl)))
                have hdn : (d : Int) = ((UInt8.ofNat d).toNat : Int) := by rw [UInt8.toNat_ofNat']; omega
                have HDn := Lib.hid hdn
                have d2b : (((d : Int) == 92) = true) ∨ (((d : Int) == 92) = false ∧ ((d : Int) == 34) = true) := by rcases d2 with rfl | rfl <;> simp
                clear HA HC HC2 HDg hne34 d1 d2 hdn
                rcases d2b with d3 | ⟨d3, d4⟩
                all_goals
                  obtain ⟨hi, hz0, hz1, hz2⟩ := HIf.out
                  go_wp2_with (at_builtin; refine wpList_append_own _ rfl _ _ 49 rfl w.heap.size 5 i0 (.int .u8 0) 1 1 Tryd.underlying49 hi hz0 hz1 hz2 rfl (by decide) _ _ _ rfl (HO.out.alloc _) ⟨wr.heap.size, 0, none⟩ 1 1 [.int .u8 (d : Int)] rfl rfl (fun j u h => TraceD.one_cell wr 5 _ j u h) (by simp [Value.oneCell']) ?c3 ?c4 ?c5 ?_)
                  case c3 => unfold maxLen; omega
                  case c4 => omega
                  case c5 => first | omega | (simp; omega)
                  intro v' w2 hown' hgrow _
                  have HO2 : Hid (w2.ownsRow w.heap.size 5 1 v' (acc ++ [UInt8.ofNat d]).length (Lib.byteCells (acc ++ [UInt8.ofNat d]))) := Lib.hid (by
                    rw [← cells_snoc acc (UInt8.ofNat d) (d : Int) HDn.out, List.length_append]
                    exact hown')
                  have HB2 : Hid (Below w.heap.size w w2) := Lib.hid ((HBr.out.alloc hszr _).grown hgrow (by simp; omega) (fun k hk => (HO.out.lt k hk).1))
                  obtain ⟨av, cv, rfl⟩ := own_sl HO2.out
                  clear hown' hgrow hi hz0 hz1 hz2 HIf
                  go_wp2
                  go_roundw
                  case rel => exact ⟨q + 2, j + 2, acc ++ [UInt8.ofNat d], by go_num, by have := HQ.out; omega, by omega, by simp; omega, HB2.out, HO2, HStep⟩
                  case measure => simp [intOf]; omega
              have d3 : ((d : Int) == 92) = false := by simp; omega
              have d4 : ((d : Int) == 34) = false := by simp; omega
              have d2c : ¬ (UInt8.ofNat d = 92 ∨ UInt8.ofNat d = 34) := fun h => by
                rcases h with h | h
                · exact ofNat_ne hd256 (k := 92) (by omega) (fun e => d2 (.inl e)) h
                · exact ofNat_ne hd256 (k := 34) (by omega) (fun e => d2 (.inr e)) h
              by_cases d5 : d = 120
              · subst d5
                by_cases hl3 : q + 3 < s.size
                · have hi3 : (q : Int) + 2 < (s.size : Int) := by omega
                  have hi4 : (q : Int) + 3 < (s.size : Int) := by omega
                  have e2 := drop_at (s := s) (p := q + 1 + 1) (by omega)
                  have e3 := drop_at (s := s) (p := q + 1 + 1 + 1) (by omega)
                  have hxa : s[q + 1 + 1]'(by omega) = s[q + 2]'(by omega) := rfl
                  have hxb : s[q + 1 + 1 + 1]'(by omega) = s[q + 3]'(by omega) := rfl
                  rw [hxa] at e2
                  rw [hxb] at e3
                  obtain ⟨a, ha⟩ : ∃ n, (s[q + 2]'(by omega)).toNat = n := ⟨_, rfl⟩
                  obtain ⟨b, hb⟩ : ∃ n, (s[q + 3]'(by omega)).toNat = n := ⟨_, rfl⟩
                  have haU : s[q + 2]'(by omega) = UInt8.ofNat a := by rw [← ha]; simp
                  have hbU : s[q + 3]'(by omega) = UInt8.ofNat b := by rw [← hb]; simp
                  have ha256 : a < 256 := by rw [← ha]; exact UInt8.toNat_lt _
                  have hb256 : b < 256 := by rw [← hb]; exact UInt8.toNat_lt _
                  rw [haU] at e2
                  rw [hbU] at e3
                  have HC4 : Hid (s.data.toList.drop (0 + 1 + j) = 92 :: 120 :: UInt8.ofNat a :: UInt8.ofNat b :: s.data.toList.drop (q + 1 + 1 + 1 + 1)) := Lib.hid (by rw [HC2.out, e2, e3]; rfl)
                  have hax : (UInt8.ofNat a).toNat = a := by rw [UInt8.toNat_ofNat']; omega
                  have hbx : (UInt8.ofNat b).toNat = b := by rw [UInt8.toNat_ofNat']; omega
                  have HPx := Lib.hid (piece_x (a := UInt8.ofNat a) (b := UInt8.ofNat b) (q := s.data.toList.drop (q + 1 + 1 + 1 + 1)))
                  rw [hax, hbx] at HPx
                  have hal := NumM.digV_lo (a : Int)
                  have hbl := NumM.digV_lo (b : Int)
                  have HDa := fun W => HDg (a : Int) (by omega) (by omega) W
                  have HDb := fun W => HDg (b : Int) (by omega) (by omega) W
                  obtain ⟨x, ex⟩ : ∃ x, NumM.digV (a : Int) = x := ⟨_, rfl⟩
                  obtain ⟨y, ey⟩ : ∃ x, NumM.digV (b : Int) = x := ⟨_, rfl⟩
                  rw [ex] at hal HPx HDa
                  rw [ey] at hbl HPx HDb
                  clear e2 e3 hxa hxb haU hbU hax hbx ex ey HDg HC2
                  by_cases hx : x ≤ 15 ∧ y ≤ 15
                  · have HP4 : Hid (pieceV (s.data.toList.drop (0 + 1 + j)) = some (UInt8.ofNat (16 * x + y).toNat, 4)) := Lib.hid (by rw [HC4.out, HPx.out, if_pos hx])
                    have HStep := Lib.hid (HA.out.step HC.out hne34 HP4.out)
                    have hx16 : x < 16 := by omega
                    have hy16 : y < 16 := by omega
                    have hw1 : IntKind.i64.wrap (16 * x) = 16 * x := by rw [IntKind.wrap_i64]; omega
                    have hw2 : IntKind.i64.wrap (16 * x + y) = 16 * x + y := by rw [IntKind.wrap_i64]; omega
                    have hw3 : IntKind.u8.wrap (16 * x + y) = 16 * x + y := by rw [IntKind.wrap_u8]; omega
                    have hdn : 16 * x + y = ((UInt8.ofNat (16 * x + y).toNat).toNat : Int) := by rw [UInt8.toNat_ofNat']; omega
                    have HDn := Lib.hid hdn
                    clear HA HC HC4 hne34 HPx HP4 hdn hx d1b d3 d4 d2c
                    obtain ⟨hi, hz0, hz1, hz2⟩ := HIf.out
                    obtain ⟨av, cv, rfl⟩ := own_sl HO.out
                    obtain ⟨Z, hZ⟩ : ∃ Z, 16 * x + y = Z := ⟨_, rfl⟩
                    have hw4 : IntKind.i64.wrap ((q : Int) + 2) = (q : Int) + 2 := by rw [IntKind.wrap_i64]; omega
                    have hw5 : IntKind.i64.wrap ((q : Int) + 3) = (q : Int) + 3 := by rw [IntKind.wrap_i64]; omega
                    have hw6 : (0 : Int) ≤ (q : Int) + 2 := by omega
                    have hw7 : (0 : Int) ≤ (q : Int) + 3 := by omega
                    have hw8 : ((q : Int) + 2).toNat = q + 2 := by omega
                    have hw9 : ((q : Int) + 3).toNat = q + 3 := by omega
                    have hnew := (Has.new wr 5 [.int .u8 Z]).drew
                    have hown1 : ((wr.alloc (.cells #[.int .u8 Z] 5)).drew).ownsRow w.heap.size 5 1 (.slice av acc.length cv) acc.length (Lib.byteCells acc) := (HO.out.alloc _).drew
                    obtain ⟨v', w2, hrun, hown', hgrow, -⟩ := run_append_own (P := Tryd.prog) (w := (wr.alloc (.cells #[.int .u8 Z] 5)).drew) w.heap.size 49 49 5 i0 (.int .u8 0) 1 1 Tryd.underlying49 hi hz0 hz1 hz2 rfl (by decide) (.slice av acc.length cv) acc.length (Lib.byteCells acc) hown1 ⟨wr.heap.size, 0, none⟩ 1 1 [.int .u8 Z] rfl (by
                      intro k u hu
                      have e : (⟨wr.heap.size, 0, none⟩ : Addr).add k = ⟨wr.heap.size, k, none⟩ := by
                        unfold Addr.add
                        split
                        · rename_i h; subst h; rfl
                        · simp
                      rw [e, hnew.cell]
                      exact hu) (by simp [Value.oneCell']) (by unfold maxLen; omega) (by omega) (by first | omega | (simp; omega))
                    have HO2 : Hid (w2.ownsRow w.heap.size 5 1 v' (acc ++ [UInt8.ofNat (16 * x + y).toNat]).length (Lib.byteCells (acc ++ [UInt8.ofNat (16 * x + y).toNat]))) := Lib.hid (by
                      rw [← cells_snoc acc (UInt8.ofNat (16 * x + y).toNat) (16 * x + y) HDn.out, List.length_append, hZ]
                      exact hown')
                    have HB2 : Hid (Below w.heap.size w w2) := Lib.hid (((HBr.out.alloc hszr _).drew).grown hgrow (by simp; omega) (fun k hk => (hown1.lt k hk).1))
                    rw [hZ] at hw2 hw3
                    obtain ⟨av2, cv2, rfl⟩ := own_sl HO2.out
                    clear hown' hgrow hi hz0 hz1 hz2 HIf hnew hown1 HO HDn
                    go_wp2_with fail
                    refine ((HDa _).out).mono ?_
                    rintro e w1 ⟨rfl, rfl⟩
                    go_wp2_with fail
                    refine ((HDb _).out).mono ?_
                    rintro e w1 ⟨rfl, rfl⟩
                    go_wp2
                    refine wp_region_any (by kernel_rfl) ?_
                    change wpAny _ _ _ _ _ _ _ (World.drew _)
                    refine wpAny_take (i := 0) (oi := { dst := some 114, op := _, type := _, pos := _, after := _, guard := _ }) (v := .slice av acc.length cv) rfl (by kernel_rfl) (by kernel_rfl) (by kernel_rfl) (fun _ _ _ h => h) (Or.inl ⟨by rfl, ?_⟩) ?_
                    · intro w; go_simp
                    simp only [Act.put, List.setIfInBounds_toArray, List.set_cons_zero, List.set_cons_succ]
                    refine wpAny_take (i := 1) (oi := { dst := some 115, op := _, type := _, pos := _, after := _, guard := _ }) (v := .string s) rfl (by kernel_rfl) (by kernel_rfl) (by kernel_rfl) (fun _ _ _ h => h) (Or.inl ⟨by rfl, ?_⟩) ?_
                    · intro w; go_simp
                    simp only [Act.put, List.setIfInBounds_toArray, List.set_cons_zero, List.set_cons_succ]
                    refine wpAny_take (i := 2) (oi := { dst := some 116, op := _, type := _, pos := _, after := _, guard := _ }) (v := .int .i64 (q : Int)) rfl (by kernel_rfl) (by kernel_rfl) (by kernel_rfl) (fun _ _ _ h => h) (Or.inl ⟨by rfl, ?_⟩) ?_
                    · intro w; go_simp
                    simp only [Act.put, List.setIfInBounds_toArray, List.set_cons_zero, List.set_cons_succ]
                    refine wpAny_take (i := 3) (oi := { dst := some 117, op := _, type := _, pos := _, after := _, guard := _ }) (v := .int .i64 ((q : Int) + 2)) rfl (by kernel_rfl) (by kernel_rfl) (by kernel_rfl) (fun _ _ _ h => h) (Or.inl ⟨by rfl, ?_⟩) ?_
                    · intro w; go_simp
                    simp only [Act.put, List.setIfInBounds_toArray, List.set_cons_zero, List.set_cons_succ]
                    refine wpAny_take (i := 4) (oi := { dst := some 118, op := _, type := _, pos := _, after := _, guard := _ }) (v := .int .u8 (a : Int)) rfl (by kernel_rfl) (by kernel_rfl) (by kernel_rfl) (fun _ _ _ h => h) (Or.inl ⟨by rfl, ?_⟩) ?_
                    · intro w; go_simp
                    simp only [Act.put, List.setIfInBounds_toArray, List.set_cons_zero, List.set_cons_succ]
                    refine wpAny_take (i := 7) (oi := { dst := some 121, op := _, type := _, pos := _, after := _, guard := _ }) (v := .string s) rfl (by kernel_rfl) (by kernel_rfl) (by kernel_rfl) (fun _ _ _ h => h) (Or.inl ⟨by rfl, ?_⟩) ?_
                    · intro w; go_simp
                    simp only [Act.put, List.setIfInBounds_toArray, List.set_cons_zero, List.set_cons_succ]
                    refine wpAny_take (i := 8) (oi := { dst := some 122, op := _, type := _, pos := _, after := _, guard := _ }) (v := .int .i64 (q : Int)) rfl (by kernel_rfl) (by kernel_rfl) (by kernel_rfl) (fun _ _ _ h => h) (Or.inl ⟨by rfl, ?_⟩) ?_
                    · intro w; go_simp
                    simp only [Act.put, List.setIfInBounds_toArray, List.set_cons_zero, List.set_cons_succ]
                    refine wpAny_take (i := 9) (oi := { dst := some 123, op := _, type := _, pos := _, after := _, guard := _ }) (v := .int .i64 ((q : Int) + 3)) rfl (by kernel_rfl) (by kernel_rfl) (by kernel_rfl) (fun _ _ _ h => h) (Or.inl ⟨by rfl, ?_⟩) ?_
                    · intro w; go_simp
                    simp only [Act.put, List.setIfInBounds_toArray, List.set_cons_zero, List.set_cons_succ]
                    refine wpAny_take (i := 10) (oi := { dst := some 124, op := _, type := _, pos := _, after := _, guard := _ }) (v := .int .u8 (b : Int)) rfl (by kernel_rfl) (by kernel_rfl) (by kernel_rfl) (fun _ _ _ h => h) (Or.inl ⟨by rfl, ?_⟩) ?_
                    · intro w; go_simp
                    simp only [Act.put, List.setIfInBounds_toArray, List.set_cons_zero, List.set_cons_succ]
                    refine wpAny_ready (rs := [5]) (by kernel_rfl) (by simp) ?_
                    refine AllReady.cons (o := { dst := some 119, op := Op.call { callee := Callee.value (Operand.func 56), args := #[Operand.tmp 118], argTypes := #[5] }, type := _, pos := _, after := _, guard := _ }) rfl (fun K hK => ?_) AllReady.nil
                    refine step_call1 rfl 56 (.tmp 118) 5 rfl (.int .u8 (a : Int)) (.int .i64 x) rfl (by kernel_rfl) ((HDa _).out) ?_
                    refine hK _ _ ?_
                    clear hK K
                    simp only [Act.put, List.setIfInBounds_toArray, List.set_cons_zero, List.set_cons_succ]
                    refine wpAny_take (i := 6) (oi := { dst := some 120, op := _, type := _, pos := _, after := _, guard := _ }) (v := .int .i64 (16 * x)) rfl (by kernel_rfl) (by kernel_rfl) (by kernel_rfl) (fun _ _ _ h => h) (Or.inl ⟨by rfl, ?_⟩) ?_
                    · intro w; go_simp
                    simp only [Act.put, List.setIfInBounds_toArray, List.set_cons_zero, List.set_cons_succ]
                    refine wpAny_ready (rs := [11]) (by kernel_rfl) (by simp) ?_
                    refine AllReady.cons (o := { dst := some 125, op := Op.call { callee := Callee.value (Operand.func 56), args := #[Operand.tmp 124], argTypes := #[5] }, type := _, pos := _, after := _, guard := _ }) rfl (fun K hK => ?_) AllReady.nil
                    refine step_call1 rfl 56 (.tmp 124) 5 rfl (.int .u8 (b : Int)) (.int .i64 y) rfl (by kernel_rfl) ((HDb _).out) ?_
                    refine hK _ _ ?_
                    clear hK K
                    simp only [Act.put, List.setIfInBounds_toArray, List.set_cons_zero, List.set_cons_succ]
                    refine wpAny_take (i := 12) (oi := { dst := some 126, op := _, type := _, pos := _, after := _, guard := _ }) (v := .int .i64 Z) rfl (by kernel_rfl) (by kernel_rfl) (by kernel_rfl) (fun _ _ _ h => h) (Or.inl ⟨by rfl, ?_⟩) ?_
                    · intro w; go_simp
                    simp only [Act.put, List.setIfInBounds_toArray, List.set_cons_zero, List.set_cons_succ]
                    refine wpAny_take (i := 13) (oi := { dst := some 127, op := _, type := _, pos := _, after := _, guard := _ }) (v := .int .u8 Z) rfl (by kernel_rfl) (by kernel_rfl) (by kernel_rfl) (fun _ _ _ h => h) (Or.inl ⟨by rfl, ?_⟩) ?_
                    · intro w; go_simp
                    simp only [Act.put, List.setIfInBounds_toArray, List.set_cons_zero, List.set_cons_succ]
                    refine wpAny_ready (rs := [14]) (by kernel_rfl) (by simp) ?_
                    refine AllReady.cons (o := { dst := some 128, op := _, type := _, pos := _, after := _, guard := _ }) rfl (fun K hK => ?_) AllReady.nil
                    go_simp
                    refine hK _ _ ?_
                    clear hK K
                    refine wpAny_ready (rs := [15]) (by kernel_rfl) (by simp) ?_
                    refine AllReady.cons (o := { dst := some 129, op := _, type := _, pos := _, after := _, guard := _ }) rfl (fun K hK => ?_) AllReady.nil
                    refine step_append_own rfl (.tmp 114) (.tmp 128) 49 rfl _ _ _ _ rfl rfl hrun ?_
                    refine hK _ _ ?_
                    clear hK K
                    simp only [Act.put, List.setIfInBounds_toArray, List.set_cons_zero, List.set_cons_succ]
                    refine wpAny_take (i := 16) (oi := { dst := some 5, op := _, type := _, pos := _, after := _, guard := _ }) (v := .slice av2 (acc ++ [UInt8.ofNat (16 * x + y).toNat]).length cv2) rfl (by kernel_rfl) (by kernel_rfl) (by kernel_rfl) (fun _ _ _ h => h) (Or.inl ⟨by rfl, ?_⟩) ?_
                    · intro w; go_simp
                    simp only [Act.put, List.setIfInBounds_toArray, List.set_cons_zero, List.set_cons_succ]
                    refine wpAny_done (by kernel_rfl) ?_ _
                    go_wp2
                    go_roundw
                    case rel => exact ⟨q + 4, j + 4, acc ++ [UInt8.ofNat (16 * x + y).toNat], by go_num, by have := HQ.out; omega, by omega, by simp; omega, HB2.out, Lib.hid (by have h9 := HO2.out; simp only [List.length_append, List.length_singleton] at h9 ⊢; exact h9), HStep⟩
                    case measure => simp [intOf]; omega
                  · have HX := fun W (hb : Below w.heap.size w W) => Lib.hid (TextIs.no' HA.out HC.out hne34 (by rw [← HC.out, HC4.out, HPx.out, if_neg hx]) hb)
                    have hx2 : ¬ x < 16 ∨ (x < 16 ∧ ¬ y < 16) := by omega
                    clear HA HC HC4 hne34 HPx hx
                    rcases hx2 with hx2 | ⟨hx2, hy2⟩
                    · go_wp2_with fail
                      refine ((HDa _).out).mono ?_
                      rintro e w1 ⟨rfl, rfl⟩
                      go_wp2
                      go_ret3
                      exact (HX _ HBr.out).out
                    · go_wp2_with fail
                      refine ((HDa _).out).mono ?_
                      rintro e w1 ⟨rfl, rfl⟩
                      go_wp2_with fail
                      refine ((HDb _).out).mono ?_
                      rintro e w1 ⟨rfl, rfl⟩
                      go_wp2
                      go_ret3
                      exact (HX _ HBr.out).out
                · have hi3 : ¬ (q : Int) + 3 < (s.size : Int) := by omega
                  have HX := fun W (hb : Below w.heap.size w W) => Lib.hid (TextIs.no' HA.out HC.out hne34 (by
                    rw [← HC.out, HC2.out]
                    exact piece_x_few (fun a b r e => by
                      have := congrArg List.length e
                      simp at this
                      omega)) hb)
                  clear HA HC HC2 hne34 HDg
                  go_wp2
                  go_ret3
                  exact (HX _ HBr.out).out
              · have d5b : ((d : Int) == 120) = false := by simp; omega
                have hi3 : ¬ (q : Int) + 3 < (s.size : Int) ∨ (q : Int) + 3 < (s.size : Int) := by omega
                have HX := fun W (hb : Below w.heap.size w W) => Lib.hid (TextIs.no' HA.out HC.out hne34 (by
                  rw [← HC.out, HC2.out]
                  exact piece_other (ofNat_ne hd256 (k := 110) (by omega) d1) d2c (ofNat_ne hd256 (k := 120) (by omega) d5)) hb)
                clear HA HC HC2 hne34 HDg
                rcases hi3 with hi3 | hi3
                all_goals
                  go_wp2
                  go_ret3
                  exact (HX _ HBr.out).out
            · have hi2 : ¬ (q : Int) + 1 < (s.size : Int) := by omega
              have hi3 : ¬ (q : Int) + 3 < (s.size : Int) := by omega
              have hqs : q + 1 = s.size := by omega
              have HX := fun W (hb : Below w.heap.size w W) => Lib.hid (TextIs.no' HA.out HC.out hne34 (by rw [hqs, List.drop_eq_nil_of_le (by simp)]; rfl) hb)
              clear HA HC hne34 HDg hqs
              go_wp2
              go_ret3
              exact (HX _ HBr.out).out
          · have h92b : ((m : Int) != 92) = true := by simp; omega
            have HStep := Lib.hid (HA.out.step HC.out hne34 (b := UInt8.ofNat m) (n := 1) (by rw [HC.out]; exact piece_self (by rw [UInt8.toNat_ofNat']; omega) (ofNat_ne hm256 (k := 92) (by omega) h92)))
            have hdn : (m : Int) = ((UInt8.ofNat m).toNat : Int) := by rw [UInt8.toNat_ofNat']; omega
            have HDn := Lib.hid hdn
            clear HA HC HDg hne34 hdn
            obtain ⟨hi, hz0, hz1, hz2⟩ := HIf.out
            go_wp2_with (at_builtin; refine wpList_append_own _ rfl _ _ 49 rfl w.heap.size 5 i0 (.int .u8 0) 1 1 Tryd.underlying49 hi hz0 hz1 hz2 rfl (by decide) _ _ _ rfl (HO.out.alloc _) ⟨wr.heap.size, 0, none⟩ 1 1 [.int .u8 (m : Int)] rfl rfl (fun j u h => TraceD.one_cell wr 5 _ j u h) (by simp [Value.oneCell']) ?c3 ?c4 ?c5 ?_)
            case c3 => unfold maxLen; omega
            case c4 => omega
            case c5 => first | omega | (simp; omega)
            intro v' w2 hown' hgrow _
            have HO2 : Hid (w2.ownsRow w.heap.size 5 1 v' (acc ++ [UInt8.ofNat m]).length (Lib.byteCells (acc ++ [UInt8.ofNat m]))) := Lib.hid (by
              rw [← cells_snoc acc (UInt8.ofNat m) (m : Int) HDn.out, List.length_append]
              exact hown')
            have HB2 : Hid (Below w.heap.size w w2) := Lib.hid ((HBr.out.alloc hszr _).grown hgrow (by simp; omega) (fun k hk => (HO.out.lt k hk).1))
            obtain ⟨av, cv, rfl⟩ := own_sl HO2.out
            clear hown' hgrow hi hz0 hz1 hz2 HIf
            go_wp2
            go_roundw
            case rel => exact ⟨q + 1, j + 1, acc ++ [UInt8.ofNat m], by go_num, by have := HQ.out; omega, by omega, by simp; omega, HB2.out, HO2, HStep⟩
            case measure => simp [intOf]; omega
    · have hqs : q = s.size := by omega
      have HX := Lib.hid (HA.out.no (by rw [← hqj, hqs, List.drop_eq_nil_of_le (by simp)]; rfl))
      have hlt2 : ¬ (q : Int) < (s.size : Int) := by omega
      clear hqs hqj HA HDg HIf
      go_wp2
      go_ret3
      exact .no _ HX.out HBr.out
end LexD
end Go.Proofs.YthlclmjcdpffbaaDoor
