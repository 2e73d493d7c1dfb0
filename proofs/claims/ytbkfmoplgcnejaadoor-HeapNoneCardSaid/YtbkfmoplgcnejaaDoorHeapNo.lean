/- A heap that nobody made has nothing and no room. (Written by mk_heapno.py.) -/
import Derived.Test.YtbkfmoplgcnejaaDoorHeapAw
import Derived.Test.YtbkfmoplgcnejaaDoorHeapIn
import Derived.Test.YtbkfmoplgcnejaaDoorTyFewS
import Derived.Test.YtbkfmoplgcnejaaDoorStoreAll
namespace Go.Proofs.YtbkfmoplgcnejaaDoor
open Go.RowKit ObjM
namespace HeapD
open LabelM LabelD ValD TyD

set_option maxRecDepth 100000 in
set_option maxHeartbeats 4000000 in
theorem cast_nil (v : V) (tk nn : Int) (a1 a2 : Option Addr) (n1 c1 n2 c2 : Nat) (w : World) : Calls Tryd.prog 11 #[.pointer none, v.agg, .agg #[.int .i64 tk, .slice a1 n1 c1, .slice a2 n2 c2], .int .i64 nn] w fun e w' => e = .returned (.tuple #[.agg #[.int .i64 0, .int .i64 0, .string ⟨#[]⟩, .int .u64 0], .bool false, .bool false]) ∧ Below w.heap.size w w' := by
  obtain ⟨k, n, s, l⟩ := v
  have HA := Lib.hid ((alloc2 (w := w) (o := .cells #[.int .i64 k, .int .i64 n, .string s, .int .u64 (l : Int)] 25) (p := .cells #[.int .i64 tk, .slice a1 n1 c1, .slice a2 n2 c2] 30)).alloc (by simp; omega) (.cells #[.int .i64 0, .int .i64 0, .string ⟨#[]⟩, .int .u64 0] 25))
  unfold V.agg
  simp only
  go_enter Tryd.func11, Tryd.ntmps11
  go_wp2
  exact bodyPost_ret (v := .tuple #[.agg #[.int .i64 0, .int .i64 0, .string ⟨#[]⟩, .int .u64 0], .bool false, .bool false]) (by simp [results, Tryd.results11, go_sem]) rfl ⟨rfl, HA.out⟩
set_option maxRecDepth 100000 in
set_option maxHeartbeats 8000000 in
theorem equal_nil (a b : V) (w : World) : Calls Tryd.prog 19 #[.pointer none, a.agg, b.agg] w fun e w' => e = .returned (.bool (sameB a b)) ∧ Below w.heap.size w w' := by
  have HB := Lib.hid (fun (k n : Int) (s : ByteArray) (l : Nat) W => base_nil ⟨k, n, s, l⟩ W)
  have HS := Lib.hid (fun W => same_any a b W)
  generalize sameB a b = r at HS
  obtain ⟨ak, an, as1, al⟩ := a
  obtain ⟨bk, bn, bs, bl⟩ := b
  unfold V.agg at HB HS ⊢
  simp only at HB HS ⊢
  obtain ⟨W1, hW1⟩ : ∃ W1, w.alloc (.cells #[.int .i64 ak, .int .i64 an, .string as1, .int .u64 (al : Int)] 25) = W1 := ⟨_, rfl⟩
  have h1 : Has W1 w.heap.size 25 [.int .i64 ak, .int .i64 an, .string as1, .int .u64 (al : Int)] := by rw [← hW1]; exact Has.new w 25 _
  have s1 : W1.heap.size = w.heap.size + 1 := by rw [← hW1]; simp
  have b1 : Below w.heap.size w W1 := by rw [← hW1]; exact alloc1
  have h2 := Has.new W1 25 [.int .i64 bk, .int .i64 bn, .string bs, .int .u64 (bl : Int)]
  have b2 : Below W1.heap.size W1 (W1.alloc (.cells #[.int .i64 bk, .int .i64 bn, .string bs, .int .u64 (bl : Int)] 25)) := alloc1
  rw [s1] at h2
  obtain ⟨W2, hW2⟩ : ∃ W2, W1.alloc (.cells #[.int .i64 bk, .int .i64 bn, .string bs, .int .u64 (bl : Int)] 25) = W2 := ⟨_, rfl⟩
  rw [hW2] at h2 b2
  have h12 := h1.below b2 h1.lt
  have HX : Hid (∀ W', Below W2.heap.size W2 W' → (W'.cell? ⟨w.heap.size, 0, none⟩ = some (.int .i64 ak) ∧ W'.cell? ⟨w.heap.size, 1, none⟩ = some (.int .i64 an) ∧ W'.cell? ⟨w.heap.size, 2, none⟩ = some (.string as1) ∧ W'.cell? ⟨w.heap.size, 3, none⟩ = some (.int .u64 (al : Int)) ∧ W'.cell? ⟨w.heap.size + 1, 0, none⟩ = some (.int .i64 bk) ∧ W'.cell? ⟨w.heap.size + 1, 1, none⟩ = some (.int .i64 bn) ∧ W'.cell? ⟨w.heap.size + 1, 2, none⟩ = some (.string bs) ∧ W'.cell? ⟨w.heap.size + 1, 3, none⟩ = some (.int .u64 (bl : Int))) ∧ Below w.heap.size w W') := Lib.hid fun W' hW => by
    have g1 := h12.below hW h12.lt
    have g2 := h2.below hW h2.lt
    exact ⟨⟨g1.cell 0, g1.cell 1, g1.cell 2, g1.cell 3, g2.cell 0, g2.cell 1, g2.cell 2, g2.cell 3⟩, b1.trans ((b2.trans (hW.mono b2.size)).mono b1.size)⟩
  have HW : Hid ((w.alloc (.cells #[.int .i64 ak, .int .i64 an, .string as1, .int .u64 (al : Int)] 25)).alloc (.cells #[.int .i64 bk, .int .i64 bn, .string bs, .int .u64 (bl : Int)] 25) = W2) := Lib.hid (by rw [hW1, hW2])
  clear h1 h2 s1 b1 b2 h12 hW1 hW2
  go_enter Tryd.func19, Tryd.ntmps19
  go_wp2
  rw [HW.out]
  clear HW
  go_region_held3 (fun W' => W'.cell? ⟨w.heap.size, 0, none⟩ = some (.int .i64 ak) ∧ W'.cell? ⟨w.heap.size, 1, none⟩ = some (.int .i64 an) ∧ W'.cell? ⟨w.heap.size, 2, none⟩ = some (.string as1) ∧ W'.cell? ⟨w.heap.size, 3, none⟩ = some (.int .u64 (al : Int)) ∧ W'.cell? ⟨w.heap.size + 1, 0, none⟩ = some (.int .i64 bk) ∧ W'.cell? ⟨w.heap.size + 1, 1, none⟩ = some (.int .i64 bn) ∧ W'.cell? ⟨w.heap.size + 1, 2, none⟩ = some (.string bs) ∧ W'.cell? ⟨w.heap.size + 1, 3, none⟩ = some (.int .u64 (bl : Int)))
    (first | exact (HX.out _ (Below.refl _ _).drew).1 | exact (HX.out _ p3).1 | exact (HX.out _ p2).1 | exact (HX.out _ p1).1 | skip)
    (first
      | (go_at_call 44
         refine (HS.out _).mono ?_
         rintro e w5 ⟨rfl, hb5⟩
         have p3 := p2.trans (hb5.mono p2.size))
      | (go_at_call 18
         refine (HB.out _ _ _ _ _).mono ?_
         first
           | (have p2t := p1
              rintro e w4 ⟨rfl, hb4⟩
              have p2 := p1.trans (hb4.mono p1.size))
           | (rintro e w3 ⟨rfl, hb3⟩
              have p1 := ((Below.refl W2.heap.size W2).drew).trans hb3)))
  all_goals
    go_wp2
    go_ret
    exact ⟨rfl, (HX.out _ p3).2⟩
def SomeB (w : World) (e : Ending) (w' : World) : Prop := (∃ b, e = .returned (.bool b)) ∧ Below w.heap.size w w'
set_option maxRecDepth 100000 in
set_option maxHeartbeats 8000000 in
theorem few_one (P : Nat) (d ak an bk bn vk vn nn tk : Int) (c al bl vl : Nat) (as1 bs vs : ByteArray) (ca an1 an2 : Option Addr) (cl cc tn1 tc1 tn2 tc2 : Nat) (t : Ty) (hcl : cl ≤ 140737488355328) (has : as1.size ≤ 140737488355328) (hbs : bs.size ≤ 140737488355328) (w : World) (h : Has w P 32 [.int .i64 d, .int .u64 (c : Int), .int .i64 ak, .int .i64 an, .string as1, .int .u64 (al : Int), .int .i64 bk, .int .i64 bn, .string bs, .int .u64 (bl : Int), .int .i64 vk, .int .i64 vn, .string vs, .int .u64 (vl : Int), .int .i64 nn, .slice ca cl cc, .int .i64 tk, .slice an1 tn1 tc1, .slice an2 tn2 tc2]) (hok : TyOk t) (htk : tk = t.kind) (ht : TyAt w (.slice an1 tn1 tc1) (.slice an2 tn2 tc2) t) :
    Calls Tryd.prog 5 #[.slice (some ⟨P, 0, none⟩) 1 1] w (SomeB w) := by
  have HFw : Hid (∀ W, Below w.heap.size w W → Calls Tryd.prog 22 #[.agg #[.int .i64 tk, .slice an1 tn1 tc1, .slice an2 tn2 tc2]] W (BoolB W (fewV t))) := Lib.hid fun W hW => by
    rw [htk]
    exact few_any t _ _ W hok (ht.frame (Nat.le_refl _) hW)
  have H := Lib.hid (fun (W : World) (hb : Below w.heap.size w W) => h.below hb h.lt)
  obtain ⟨m, m1, hm0, hm1⟩ : ∃ m, IntKind.i64.wrap (10 + (cl : Int)) = m ∧ -9223372036854775808 ≤ m ∧ m ≤ 9223372036854775807 := ⟨10 + (cl : Int), IntWalk.i64_in _ (by omega), by omega, by omega⟩
  obtain ⟨q, m2, hq0, hq1⟩ : ∃ q, IntKind.i64.wrap ((as1.size : Int) + (bs.size : Int)) = q ∧ -9223372036854775808 ≤ q ∧ q ≤ 9223372036854775807 := ⟨(as1.size : Int) + (bs.size : Int), IntWalk.i64_in _ (by omega), by omega, by omega⟩
  obtain ⟨r, m3, hr0, hr1⟩ : ∃ r, IntKind.i64.wrap (q + (vs.size : Int)) = r ∧ -9223372036854775808 ≤ r ∧ r ≤ 9223372036854775807 := ⟨IntKind.i64.wrap (q + (vs.size : Int)), rfl, by simp [IntKind.wrap, IntKind.bits, IntKind.signed]; omega, by simp [IntKind.wrap, IntKind.bits, IntKind.signed]; omega⟩
  clear h hok htk ht hcl has hbs
  go_enter Tryd.func5, Tryd.ntmps5
  go_wp2
  go_loopw [3, 8] (fun nv i wr => ((nv = .int .i64 0 ∧ i = .int .i64 0) ∨ (i = .int .i64 1 ∧ ∃ m, nv = .int .i64 m)) ∧ Hid (Below w.heap.size w wr)) (fun _ i _ => 1 - (intOf i).toNat)
  case atStart => exact ⟨.inl ⟨rfl, rfl⟩, Lib.hid (Below.refl _ _)⟩
  case round =>
    obtain ⟨⟨rfl, rfl⟩ | ⟨rfl, mq, rfl⟩, HB⟩ := hrel
    · have hh := H.out _ HB.out
      have hl := hh.lt
      have hld := Lib.hid (run_load_all (P := Tryd.prog) (T := 32) (i0 := 0) (bs := []) (ds := []) 19 (by kernel_rfl) (by kernel_rfl) (by simpa using hh) rfl rfl)
      have hz := Has.new wr 32 [.int .i64 0, .int .u64 0, .int .i64 0, .int .i64 0, .string ⟨#[]⟩, .int .u64 0, .int .i64 0, .int .i64 0, .string ⟨#[]⟩, .int .u64 0, .int .i64 0, .int .i64 0, .string ⟨#[]⟩, .int .u64 0, .int .i64 0, .slice none 0 0, .int .i64 0, .slice none 0 0, .slice none 0 0]
      obtain ⟨w3, hst, hh3, hk3⟩ := run_store_all (P := Tryd.prog) (T := 32) [.int .i64 d, .int .u64 (c : Int), .int .i64 ak, .int .i64 an, .string as1, .int .u64 (al : Int), .int .i64 bk, .int .i64 bn, .string bs, .int .u64 (bl : Int), .int .i64 vk, .int .i64 vn, .string vs, .int .u64 (vl : Int), .int .i64 nn, .slice ca cl cc, .int .i64 tk, .slice an1 tn1 tc1, .slice an2 tn2 tc2] hz (by kernel_rfl) rfl (by simp [Value.oneCell'])
      have HST := Lib.hid hst
      have k3 : Below wr.heap.size wr w3 := ((Below.refl _ wr).alloc (Nat.le_refl _) _).trans (hk3.toBelow _ (by simp) (by simp))
      have HB2 : Hid (Below w.heap.size w w3) := Lib.hid (HB.out.trans (k3.mono HB.out.size))
      have HF2 := Lib.hid (HFw.out _ HB2.out)
      have x0 := hh3.cell 0
      have x1 := hh3.cell 1
      have x2 := hh3.cell 2
      have x3 := hh3.cell 3
      have x4 := hh3.cell 4
      have x5 := hh3.cell 5
      have x6 := hh3.cell 6
      have x7 := hh3.cell 7
      have x8 := hh3.cell 8
      have x9 := hh3.cell 9
      have x10 := hh3.cell 10
      have x11 := hh3.cell 11
      have x12 := hh3.cell 12
      have x13 := hh3.cell 13
      have x14 := hh3.cell 14
      have x15 := hh3.cell 15
      have x16 := hh3.cell 16
      have x17 := hh3.cell 17
      have x18 := hh3.cell 18
      have hl3 := hh3.lt
      simp only [List.getElem?_cons_zero, List.getElem?_cons_succ] at x0 x1 x2 x3 x4 x5 x6 x7 x8 x9 x10 x11 x12 x13 x14 x15 x16 x17 x18
      clear hh H HB HFw hz hst hh3 hk3 k3
      go_wp2_with (first
        | (refine wpList_load_run rfl (.tmp 10) 32 rfl _ _ rfl hld.out ?_)
        | (refine wpList_store_run rfl (.tmp 5) (.tmp 11) 32 rfl _ _ rfl rfl _ HST.out ?_)
        | fail)
      rotate_left
      · refine bodyPost_ret (v := .bool false) (by simp [results, Tryd.results5, go_sem]) rfl ⟨⟨_, rfl⟩, HB2.out⟩
      · refine bodyPost_ret (v := .bool false) (by simp [results, Tryd.results5, go_sem]) rfl ⟨⟨_, rfl⟩, HB2.out⟩
      refine HF2.out.mono ?_
      rintro e w4 ⟨rfl, hb3⟩
      have HB3 := Lib.hid (HB2.out.trans (hb3.mono HB2.out.size))
      clear hb3 HF2 x0 x1 x2 x3 x4 x5 x6 x7 x8 x9 x10 x11 x12 x13 x14 x15 x16 x17 x18 hl hl3 hld HST
      generalize fewV t = fb
      cases fb
      · go_wp2
        refine bodyPost_ret (v := .bool false) (by simp [results, Tryd.results5, go_sem]) rfl ⟨⟨_, rfl⟩, HB3.out⟩
      · go_wp2
        go_roundw
        case rel => exact ⟨.inr ⟨by go_num, _, rfl⟩, HB3⟩
        case measure => simp [intOf]
    · go_wp2
      refine bodyPost_ret (v := .bool true) (by simp [results, Tryd.results5, go_sem]) rfl ⟨⟨_, rfl⟩, HB.out⟩
end HeapD
end Go.Proofs.YtbkfmoplgcnejaaDoor
