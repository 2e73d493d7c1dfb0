/- A heap that nobody made has nothing and no room: the law. (Written by mk_heapno.py.) -/
import Derived.Test.YtbkfmoplgcnejaaDoorHeapNo
namespace Go.Proofs.YtbkfmoplgcnejaaDoor
open Go.RowKit ObjM
namespace HeapD
open LabelM LabelD ValD TyD

set_option maxRecDepth 100000 in
set_option maxHeartbeats 16000000 in
theorem heapNone_any (d ak an bk bn vk vn nn tk : Int) (c al bl vl : Nat) (as1 bs vs : ByteArray) (ca an1 an2 : Option Addr) (cl cc tn1 tc1 tn2 tc2 : Nat) (t : Ty) (hcl : cl ≤ 140737488355328) (has : as1.size ≤ 140737488355328) (hbs : bs.size ≤ 140737488355328) (w : World) (hok : TyOk t) (htk : tk = t.kind) (ht : TyAt w (.slice an1 tn1 tc1) (.slice an2 tn2 tc2) t) :
    Calls Tryd.prog 3 #[.agg #[.int .i64 d, .int .u64 (c : Int), .int .i64 ak, .int .i64 an, .string as1, .int .u64 (al : Int), .int .i64 bk, .int .i64 bn, .string bs, .int .u64 (bl : Int), .int .i64 vk, .int .i64 vn, .string vs, .int .u64 (vl : Int), .int .i64 nn, .slice ca cl cc, .int .i64 tk, .slice an1 tn1 tc1, .slice an2 tn2 tc2]] w fun e w' => e = .returned (.bool true) ∧ Below w.heap.size w w' := by
  have HA := Lib.hid (fun W => awake_any W)
  have HT1 := Lib.hid (fun (c : Int) W => table_nil c W)
  have HT2 := Lib.hid (fun W => put_nil (c : Int) ⟨ak, an, as1, al⟩ ⟨bk, bn, bs, bl⟩ ⟨vk, vn, vs, vl⟩ W)
  have HT3 := Lib.hid (fun W => closure_nil nn ca cl cc W)
  have HT4 := Lib.hid (fun W => fn_nil ⟨ak, an, as1, al⟩ W)
  have HT5 := Lib.hid (fun W => cell_nil ⟨ak, an, as1, al⟩ W)
  have HT6 := Lib.hid (fun W => cast_nil ⟨ak, an, as1, al⟩ tk nn an1 an2 tn1 tc1 tn2 tc2 W)
  have HT7 := Lib.hid (fun (n : Int) W => charge_nil n W)
  have HT8 := Lib.hid (fun W => used_nil W)
  have HT9 := Lib.hid (fun W => (of_nil ⟨ak, an, as1, al⟩ W).mono (fun e w' (h : _ ∧ _) => (⟨h.1, of_below h.2⟩ : e = .returned (.pointer none) ∧ Below W.heap.size W w')))
  have H1 := Lib.hid (fun W => store_nil (c : Int) nn ⟨ak, an, as1, al⟩ W)
  have H2 := Lib.hid (fun W => load_nil nn W)
  have H3 := Lib.hid (fun W => get_nil ⟨ak, an, as1, al⟩ ⟨bk, bn, bs, bl⟩ W)
  have H4 := Lib.hid (fun W => base_nil ⟨ak, an, as1, al⟩ W)
  have H5 := Lib.hid (fun W => equal_nil ⟨ak, an, as1, al⟩ ⟨bk, bn, bs, bl⟩ W)
  have H6 := Lib.hid (fun W => refSame_any ⟨ak, an, as1, al⟩ ⟨bk, bn, bs, bl⟩ W)
  unfold GetNo at H3
  generalize sameB ⟨ak, an, as1, al⟩ ⟨bk, bn, bs, bl⟩ = sr at H5 H6
  have HFe := Lib.hid (fun (P : Nat) (W : World) (hW : Below w.heap.size w W) h => few_one P d ak an bk bn vk vn nn tk c al bl vl as1 bs vs ca an1 an2 cl cc tn1 tc1 tn2 tc2 t hcl has hbs W h hok htk (ht.frame (Nat.le_refl _) hW))
  simp only [V.agg] at HT2 HT4 HT5 HT6 HT9 H1 H3 H4 H5 H6
  have he := eqIn_self
  have hq := eq_self
  have hA0 := (Below.refl w.heap.size w).alloc (Nat.le_refl _) (.cells #[.int .i64 d, .int .u64 (c : Int), .int .i64 ak, .int .i64 an, .string as1, .int .u64 (al : Int), .int .i64 bk, .int .i64 bn, .string bs, .int .u64 (bl : Int), .int .i64 vk, .int .i64 vn, .string vs, .int .u64 (vl : Int), .int .i64 nn, .slice ca cl cc, .int .i64 tk, .slice an1 tn1 tc1, .slice an2 tn2 tc2] 32)
  have hX0 := Has.new w 32 [.int .i64 d, .int .u64 (c : Int), .int .i64 ak, .int .i64 an, .string as1, .int .u64 (al : Int), .int .i64 bk, .int .i64 bn, .string bs, .int .u64 (bl : Int), .int .i64 vk, .int .i64 vn, .string vs, .int .u64 (vl : Int), .int .i64 nn, .slice ca cl cc, .int .i64 tk, .slice an1 tn1 tc1, .slice an2 tn2 tc2]
  have A0 := Lib.hid hA0
  have X0 := Lib.hid hX0
  clear hA0 hX0 hok htk ht hcl has hbs
  go_enter Tryd.func3, Tryd.ntmps3
  go_wp2_with fail
  with_reducible refine (HA.out _).mono ?_
  rintro e w1 ⟨rfl, hb1⟩
  have A1 := Lib.hid (A0.out.trans (hb1.mono (by simp)))
  have hx := X0.out.below hb1 X0.out.lt
  have X1 := Lib.hid hx
  clear hb1 A0 X0
  have hlt := hx.lt
  have hld := Lib.hid (run_load_all (P := Tryd.prog) (T := 32) (i0 := 0) (bs := []) (ds := []) 19 (by kernel_rfl) (by kernel_rfl) (by simpa using hx) rfl rfl)
  clear hx
  go_wp2_with (first | (refine wpList_load_run rfl (.tmp 1) 32 rfl _ _ rfl hld.out ?_) | fail)
  clear hld
  have ha2 := (Below.refl w1.heap.size w1).alloc (Nat.le_refl _) (.cells #[.int .i64 d, .int .u64 (c : Int), .int .i64 ak, .int .i64 an, .string as1, .int .u64 (al : Int), .int .i64 bk, .int .i64 bn, .string bs, .int .u64 (bl : Int), .int .i64 vk, .int .i64 vn, .string vs, .int .u64 (vl : Int), .int .i64 nn, .slice ca cl cc, .int .i64 tk, .slice an1 tn1 tc1, .slice an2 tn2 tc2] 32)
  refine (HFe.out w1.heap.size _ (A1.out.trans (ha2.mono A1.out.size)) (Has.new w1 32 [.int .i64 d, .int .u64 (c : Int), .int .i64 ak, .int .i64 an, .string as1, .int .u64 (al : Int), .int .i64 bk, .int .i64 bn, .string bs, .int .u64 (bl : Int), .int .i64 vk, .int .i64 vn, .string vs, .int .u64 (vl : Int), .int .i64 nn, .slice ca cl cc, .int .i64 tk, .slice an1 tn1 tc1, .slice an2 tn2 tc2])).mono ?_
  rintro e w2 ⟨⟨b, rfl⟩, hb2⟩
  have hb2' := ha2.trans (hb2.mono ha2.size)
  have A2 := Lib.hid (A1.out.trans (hb2'.mono A1.out.size))
  have hx := X1.out.below hb2' X1.out.lt
  have HX : Hid (∀ W, Below w2.heap.size w2 W → Has W w.heap.size 32 [.int .i64 d, .int .u64 (c : Int), .int .i64 ak, .int .i64 an, .string as1, .int .u64 (al : Int), .int .i64 bk, .int .i64 bn, .string bs, .int .u64 (bl : Int), .int .i64 vk, .int .i64 vn, .string vs, .int .u64 (vl : Int), .int .i64 nn, .slice ca cl cc, .int .i64 tk, .slice an1 tn1 tc1, .slice an2 tn2 tc2]) := Lib.hid (fun W hW => hx.below hW hx.lt)
  have P2 := Lib.hid (Below.refl w2.heap.size w2)
  clear hlt hb2 ha2 hb2' A1 X1 hx
  cases b
  · go_wp2
    exact bodyPost_ret (v := .bool true) (by simp [results, Tryd.results3, go_sem]) rfl ⟨rfl, A2.out⟩
  · have hx := HX.out _ P2.out
    have x1 := hx.cell 1
    have hlt := hx.lt
    simp only [List.getElem?_cons_zero, List.getElem?_cons_succ] at x1
    clear hx
    go_wp2_with fail
    refine (HT1.out _ _).mono ?_
    rintro e w3 ⟨rfl, hb⟩
    have hb0 := P2.out
    have P3 := Lib.hid (hb0.trans (hb.mono hb0.size))
    clear hb hb0 hlt x1
    have hx := HX.out _ P3.out
    have x1 := hx.cell 1
    have x2 := hx.cell 2
    have x3 := hx.cell 3
    have x4 := hx.cell 4
    have x5 := hx.cell 5
    have x6 := hx.cell 6
    have x7 := hx.cell 7
    have x8 := hx.cell 8
    have x9 := hx.cell 9
    have x10 := hx.cell 10
    have x11 := hx.cell 11
    have x12 := hx.cell 12
    have x13 := hx.cell 13
    have hlt := hx.lt
    simp only [List.getElem?_cons_zero, List.getElem?_cons_succ] at x1 x2 x3 x4 x5 x6 x7 x8 x9 x10 x11 x12 x13
    clear hx
    go_wp2_with fail
    refine (HT2.out _).mono ?_
    rintro e w4 ⟨rfl, hb⟩
    have hb0 := P3.out.trans ((alloc1 (w := w3) (o := .cells #[.int .i64 0, .int .i64 0, .string ⟨#[]⟩, .int .u64 0] 25)).mono P3.out.size)
    have P4 := Lib.hid (hb0.trans (hb.mono hb0.size))
    clear hb hb0 hlt x1 x2 x3 x4 x5 x6 x7 x8 x9 x10 x11 x12 x13
    have hx := HX.out _ P4.out
    have x14 := hx.cell 14
    have x15 := hx.cell 15
    have hlt := hx.lt
    simp only [List.getElem?_cons_zero, List.getElem?_cons_succ] at x14 x15
    clear hx
    go_wp2_with fail
    refine (HT3.out _).mono ?_
    rintro e w5 ⟨rfl, hb⟩
    have hb0 := P4.out
    have P5 := Lib.hid (hb0.trans (hb.mono hb0.size))
    clear hb hb0 hlt x14 x15
    have hx := HX.out _ P5.out
    have x2 := hx.cell 2
    have x3 := hx.cell 3
    have x4 := hx.cell 4
    have x5 := hx.cell 5
    have hlt := hx.lt
    simp only [List.getElem?_cons_zero, List.getElem?_cons_succ] at x2 x3 x4 x5
    clear hx
    go_wp2_with fail
    refine (HT4.out _).mono ?_
    rintro e w6 ⟨rfl, hb⟩
    have hb0 := P5.out.trans ((alloc1 (w := w5) (o := .cells #[.int .i64 0, .int .i64 0, .string ⟨#[]⟩, .int .u64 0] 25)).mono P5.out.size)
    have P6 := Lib.hid (hb0.trans (hb.mono hb0.size))
    clear hb hb0 hlt x2 x3 x4 x5
    have hx := HX.out _ P6.out
    have x2 := hx.cell 2
    have x3 := hx.cell 3
    have x4 := hx.cell 4
    have x5 := hx.cell 5
    have hlt := hx.lt
    simp only [List.getElem?_cons_zero, List.getElem?_cons_succ] at x2 x3 x4 x5
    clear hx
    go_wp2_with fail
    refine (HT5.out _).mono ?_
    rintro e w7 ⟨rfl, hb⟩
    have hb0 := P6.out.trans ((alloc1 (w := w6) (o := .cells #[.int .i64 0, .slice none 0 0, .int .i64 0, .int .i64 0, .string ⟨#[]⟩, .int .u64 0, .int .i64 0, .slice none 0 0, .slice none 0 0, .int .i64 0, .bool false] 44)).mono P6.out.size)
    have P7 := Lib.hid (hb0.trans (hb.mono hb0.size))
    clear hb hb0 hlt x2 x3 x4 x5
    have hx := HX.out _ P7.out
    have x2 := hx.cell 2
    have x3 := hx.cell 3
    have x4 := hx.cell 4
    have x5 := hx.cell 5
    have x14 := hx.cell 14
    have x16 := hx.cell 16
    have x17 := hx.cell 17
    have x18 := hx.cell 18
    have hlt := hx.lt
    simp only [List.getElem?_cons_zero, List.getElem?_cons_succ] at x2 x3 x4 x5 x14 x16 x17 x18
    clear hx
    go_wp2_with fail
    refine (HT6.out _).mono ?_
    rintro e w8 ⟨rfl, hb⟩
    have hb0 := P7.out
    have P8 := Lib.hid (hb0.trans (hb.mono hb0.size))
    clear hb hb0 hlt x2 x3 x4 x5 x14 x16 x17 x18
    have hx := HX.out _ P8.out
    have x2 := hx.cell 2
    have x3 := hx.cell 3
    have x4 := hx.cell 4
    have x5 := hx.cell 5
    have hlt := hx.lt
    simp only [List.getElem?_cons_zero, List.getElem?_cons_succ] at x2 x3 x4 x5
    clear hx
    have hb0 := P8.out.trans ((alloc1 (w := w8) (o := .cells #[.int .i64 0, .int .i64 0, .string ⟨#[]⟩, .int .u64 0] 25)).mono P8.out.size)
    go_wp2_with fail
    refine (HT7.out _ _).mono ?_
    rintro e w9 ⟨rfl, hw9⟩
    subst hw9
    go_wp2_with fail
    refine (HT8.out _).mono ?_
    rintro e w10 ⟨rfl, hw10⟩
    subst hw10
    go_wp2_with fail
    refine (HT9.out _).mono ?_
    rintro e w11 ⟨rfl, hb⟩
    have P11 := Lib.hid (hb0.trans (hb.mono hb0.size))
    clear hb hb0 hlt x2 x3 x4 x5
    have hx := HX.out _ P11.out
    have x1 := hx.cell 1
    have x2 := hx.cell 2
    have x3 := hx.cell 3
    have x4 := hx.cell 4
    have x5 := hx.cell 5
    have x6 := hx.cell 6
    have x7 := hx.cell 7
    have x8 := hx.cell 8
    have x9 := hx.cell 9
    have x14 := hx.cell 14
    have hlt := hx.lt
    simp only [List.getElem?_cons_zero, List.getElem?_cons_succ] at x1 x2 x3 x4 x5 x6 x7 x8 x9 x14
    clear hx
    have HSS : Hid (∀ W', Below w11.heap.size w11 W' → (W'.cell? ⟨w.heap.size, 1, none⟩ = some (.int .u64 (c : Int)) ∧ W'.cell? ⟨w.heap.size, 2, none⟩ = some (.int .i64 ak) ∧ W'.cell? ⟨w.heap.size, 3, none⟩ = some (.int .i64 an) ∧ W'.cell? ⟨w.heap.size, 4, none⟩ = some (.string as1) ∧ W'.cell? ⟨w.heap.size, 5, none⟩ = some (.int .u64 (al : Int)) ∧ W'.cell? ⟨w.heap.size, 6, none⟩ = some (.int .i64 bk) ∧ W'.cell? ⟨w.heap.size, 7, none⟩ = some (.int .i64 bn) ∧ W'.cell? ⟨w.heap.size, 8, none⟩ = some (.string bs) ∧ W'.cell? ⟨w.heap.size, 9, none⟩ = some (.int .u64 (bl : Int)) ∧ W'.cell? ⟨w.heap.size, 14, none⟩ = some (.int .i64 nn))) := Lib.hid (fun W' hb => by
      have hh := HX.out W' (P11.out.trans (hb.mono P11.out.size))
      exact ⟨hh.cell 1, hh.cell 2, hh.cell 3, hh.cell 4, hh.cell 5, hh.cell 6, hh.cell 7, hh.cell 8, hh.cell 9, hh.cell 14⟩)
    go_wp2
    go_region_held3 (fun W' => W'.cell? ⟨w.heap.size, 1, none⟩ = some (.int .u64 (c : Int)) ∧ W'.cell? ⟨w.heap.size, 2, none⟩ = some (.int .i64 ak) ∧ W'.cell? ⟨w.heap.size, 3, none⟩ = some (.int .i64 an) ∧ W'.cell? ⟨w.heap.size, 4, none⟩ = some (.string as1) ∧ W'.cell? ⟨w.heap.size, 5, none⟩ = some (.int .u64 (al : Int)) ∧ W'.cell? ⟨w.heap.size, 6, none⟩ = some (.int .i64 bk) ∧ W'.cell? ⟨w.heap.size, 7, none⟩ = some (.int .i64 bn) ∧ W'.cell? ⟨w.heap.size, 8, none⟩ = some (.string bs) ∧ W'.cell? ⟨w.heap.size, 9, none⟩ = some (.int .u64 (bl : Int)) ∧ W'.cell? ⟨w.heap.size, 14, none⟩ = some (.int .i64 nn))
      (first | exact HSS.out _ (Below.refl _ _).drew | exact HSS.out _ p6 | exact HSS.out _ p5 | exact HSS.out _ p4 | exact HSS.out _ p3 | exact HSS.out _ p2 | exact HSS.out _ p1 | skip)
      (first
        | (go_at_call 15
           refine (H1.out _).mono ?_
           rintro e y1 ⟨rfl, hb1⟩
           have p1 := ((Below.refl w11.heap.size w11).drew).trans hb1)
        | (go_at_call 16
           refine (H2.out _).mono ?_
           rintro e y2 ⟨rfl, hb2⟩
           have p2 := p1.trans (hb2.mono p1.size))
        | (go_at_call 17
           refine (H3.out _).mono ?_
           rintro e y3 ⟨rfl, hb3⟩
           have p3 := p2.trans (hb3.mono p2.size))
        | (go_at_call 18
           refine (H4.out _).mono ?_
           rintro e y4 ⟨rfl, hb4⟩
           have p4 := p3.trans (hb4.mono p3.size))
        | (go_at_call 19
           refine (H5.out _).mono ?_
           rintro e y5 ⟨rfl, hb5⟩
           have p5 := p4.trans (hb5.mono p4.size))
        | (go_at_call 20
           refine (H6.out _).mono ?_
           rintro e y6 ⟨rfl, hb6⟩
           have p6 := p5.trans (hb6.mono p5.size)))
    all_goals
      go_wp2
      exact bodyPost_ret (v := .bool true) (by simp [results, Tryd.results3, go_sem]) rfl ⟨rfl, A2.out.trans ((P11.out.trans (p6.mono P11.out.size)).mono A2.out.size)⟩
end HeapD
end Go.Proofs.YtbkfmoplgcnejaaDoor
