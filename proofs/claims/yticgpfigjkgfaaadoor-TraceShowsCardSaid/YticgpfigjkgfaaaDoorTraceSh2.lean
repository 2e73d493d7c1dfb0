/- The walk of TraceShows. -/
import Derived.Test.YticgpfigjkgfaaaDoorTraceSh
import Derived.Test.YticgpfigjkgfaaaDoorTraceLaws
namespace Go.Proofs.YticgpfigjkgfaaaDoor
open Go.RowKit Go.WideShapes Go.ChangeShapes ObjM
namespace TraceD
open LabelM LabelD NumD

def OkEv (e : Ev) : Prop := e.s.size ≤ 1000000 ∧ (-9223372036854775808 ≤ e.ch ∧ e.ch ≤ 9223372036854775807) ∧ (-9223372036854775808 ≤ e.n ∧ e.n ≤ 9223372036854775807)
theorem textS_size (e : Ev) (h : OkEv e) : (textS e).size ≤ 4000002 := by
  rcases textWay e with ⟨_, t⟩ | ⟨_, _, t⟩ | ⟨_, _, _, t⟩ | ⟨_, t⟩ | ⟨_, t⟩ | ⟨_, t⟩ | ⟨_, t⟩ | ⟨_, t⟩ | ⟨_, _, _, _, _, _, _, t⟩ <;> rw [t]
  case int =>
    have := Lib.itoa_length_le e.n h.2.2.1 h.2.2.2
    show (Lib.itoa e.n).toArray.size ≤ _
    simp
    omega
  case str =>
    have h1 := flat_len e.s.data.toList
    have h2 : e.s.data.toList.length = e.s.size := Array.length_toList
    have h3 := h.1
    show (quoteB e.s.data.toList).toArray.size ≤ _
    unfold quoteB
    simp only [List.size_toArray, List.length_cons, List.length_append, List.length_nil]
    omega
  all_goals decide
theorem lineB_len (e : Ev) (h : OkEv e) : (lineB e).length ≤ 4000025 := by
  have h1 := textS_size e h
  have h2 := Lib.itoa_length_le e.ch h.2.1.1 h.2.1.2
  have h3 : (textS e).data.toList.length = (textS e).size := Array.length_toList
  unfold lineB
  simp only [List.length_append, List.length_cons, List.length_nil]
  omega
theorem showL_len (l : List Ev) (h : ∀ e ∈ l, OkEv e) : (showL l).length ≤ 4000025 * l.length := by
  induction l with
  | nil => simp [showL]
  | cons a r ih =>
    have h1 := ih fun e he => h e (List.mem_cons_of_mem _ he)
    have h2 := lineB_len a (h a (List.mem_cons_self))
    unfold showL at h1 ⊢
    simp only [List.flatMap_cons, List.length_append, List.length_cons]
    omega
theorem builder_below {T e : TypeId} {B b : Nat} {bs : List Value} {w w' : World} (h : Lib.IsBuilder T e B b bs w) (hb : Below w.heap.size w w') : Lib.IsBuilder T e B b bs w' := by
  have go : ∀ p, Lib.BuilderAt T e B b p bs w → Lib.BuilderAt T e B b p bs w' := by
    rintro p ⟨hB, v, hbk, hown, hne⟩
    exact ⟨hB, v, (hb.block b (Array.getElem?_eq_some_iff.1 hbk).1).trans hbk, own_keepsT hown (KeepsT.below hb []) (by simp), hne⟩
  exact h.imp (go _) (go _)
theorem list_size (b : ByteArray) : b.data.toList.length = b.size := Array.length_toList

set_option maxRecDepth 100000 in
set_option maxHeartbeats 4000000 in
theorem show_all (l : List Ev) (hok : ∀ e ∈ l, OkEv e) (hlen : l.length ≤ 1000) (v : Value) (w : World) (hv : EvsAt w v l) (hT : Tab w) :
    Calls Tryd.prog 15 #[v] w fun e w' => e = .returned (.string ⟨(showL l).toArray⟩) ∧ Below w.heap.size w w' := by
  obtain ⟨av, cv, rfl⟩ := hv.shape
  have HV := Lib.hid (fun (W : World) (hb : Below w.heap.size w W) => hv.below hb)
  have HT := Lib.hid (fun (W : World) (hb : Below w.heap.size w W) => hT.below hb)
  have HK := Lib.hid hok
  have HSL := Lib.hid (fun k => showL_len (l.take k) fun e he => hok e (List.mem_of_mem_take he))
  clear hv hT hok
  have hI0 : Lib.IsBuilder 46 5 w.heap.size w.heap.size (Lib.byteCells (showL (l.take 0))) (w.alloc (.cells #[.pointer none, .slice none 0 0] 46)) :=
    .inl ⟨Nat.le_refl _, .slice none 0 0, Has.new w 46 [.pointer none, .slice none 0 0], World.ownsRow_nil _ _ _ _, by simp [Value.ownBlock]⟩
  have I0 := Lib.hid hI0
  clear hI0
  go_enter Tryd.func15, Tryd.ntmps15
  go_wp2
  go_loopw [8] (fun i wr => ∃ k : Nat, i = .int .i64 k ∧ k ≤ l.length ∧ Below w.heap.size w wr ∧ Hid (Lib.IsBuilder 46 5 w.heap.size w.heap.size (Lib.byteCells (showL (l.take k))) wr) ∧ w.heap.size < wr.heap.size) (fun i _ => l.length - (intOf i).toNat)
  case atStart => exact ⟨0, rfl, by omega, (Below.refl _ w).alloc (Nat.le_refl _) _, I0, by simp⟩
  case round =>
    obtain ⟨k, rfl, hk, hB, HI, hszr⟩ := hrel
    have HB := Lib.hid hB
    by_cases hlt : k < l.length
    · obtain ⟨b, o, rfl, hbl, c0, c1, c2, c3⟩ := (HV.out _ hB).at k hlt
      have hokk := HK.out l[k] (List.getElem_mem hlt)
      have HNx := Lib.hid (showL_next hlt)
      have hsl := HSL.out k
      have htl : (l.take k).length ≤ 1000 := by simp; omega
      have hlb := lineB_len _ hokk
      have hts := textS_size _ hokk
      have hit := Lib.itoa_length_le _ hokk.2.1.1 hokk.2.1.2
      have HTx := fun (W : World) (hb : Below w.heap.size w W) => Lib.hid (text_any l[k] hokk.1 hokk.2.2 W (HT.out W hb))
      have HIt := fun (W : World) (hb : Below w.heap.size w W) => Lib.hid (Tryd.strconv_Itoa l[k].ch hokk.2.1.1 hokk.2.1.2 W (HT.out W hb))
      obtain ⟨A, hA⟩ : ∃ x : ByteArray, (⟨(Lib.itoa l[k].ch).toArray⟩ : ByteArray) = x := ⟨_, rfl⟩
      obtain ⟨T, hTx⟩ : ∃ x : ByteArray, textS l[k] = x := ⟨_, rfl⟩
      have hLn : (A ++ ⟨#[32]⟩ ++ T ++ ⟨#[10]⟩).data.toList = lineB l[k] := by
        rw [app_list, app_list, app_list, ← hA, ← hTx]
        rfl
      have hAs : A.size ≤ 21 := by rw [← hA]; show (Lib.itoa l[k].ch).toArray.size ≤ _; simpa using hit
      rw [hTx] at hts HTx
      simp only [hA] at HIt
      obtain ⟨⟨x0, x1, x2, x3⟩, hx⟩ : ∃ x, l[k] = x := ⟨_, rfl⟩
      rw [hx] at c0 c1 c2 c3 HNx HTx HIt hLn hlb
      simp only [Ev.agg] at c0 c1 c2 c3 HTx HIt
      clear hx hA hTx hokk hit hB
      have hi1 : (k : Int) < (l.length : Int) := by omega
      have hv0 := Has.new wr 38 [.int .i64 x0, .int .i64 x1, .int .i64 x2, .string x3]
      have HF : Hid (∀ W', Below (wr.alloc (.cells #[.int .i64 x0, .int .i64 x1, .int .i64 x2, .string x3] 38)).heap.size (wr.alloc (.cells #[.int .i64 x0, .int .i64 x1, .int .i64 x2, .string x3] 38)) W' → (W'.cell? ⟨wr.heap.size, 0, none⟩ = some (.int .i64 x0) ∧ W'.cell? ⟨wr.heap.size, 1, none⟩ = some (.int .i64 x1) ∧ W'.cell? ⟨wr.heap.size, 2, none⟩ = some (.int .i64 x2) ∧ W'.cell? ⟨wr.heap.size, 3, none⟩ = some (.string x3)) ∧ w.heap.size ≤ W'.heap.size ∧ Below w.heap.size w W' ∧ Below wr.heap.size wr W') := Lib.hid (fun W' hb => by
        have p := hv0.below hb hv0.lt
        have h2 : Below wr.heap.size wr W' := ((Below.refl _ wr).alloc (Nat.le_refl _) _).trans (hb.mono (by simp))
        have h3 := HB.out.trans (h2.mono HB.out.size)
        exact ⟨⟨p.cell 0, p.cell 1, p.cell 2, p.cell 3⟩, h3.size, h3, h2⟩)
      have HIB := Lib.hid (fun (W' : World) (hb : Below wr.heap.size wr W') => builder_below HI.out hb)
      have HWS := fun (t : ByteArray) (W : World) h hl hB => Lib.hid (writeString_any w.heap.size w.heap.size (Lib.byteCells (showL (l.take k))) t W h hl hB)
      have hbl2 : (Lib.byteCells (showL (l.take k))).length ≤ 4000025000 := by rw [Lib.byteCells_length]; omega
      have z1 : ¬ 9223372036854775807 < A.size + 1 := by omega
      have z2 : ¬ 9223372036854775807 < A.size + 1 + T.size := by omega
      have z3 : ¬ 9223372036854775807 < A.size + 1 + T.size + 1 := by omega
      have hLs : (A ++ ⟨#[32]⟩ ++ T ++ ⟨#[10]⟩).size ≤ 4000025 := by
        have h := list_size (A ++ ⟨#[32]⟩ ++ T ++ ⟨#[10]⟩)
        rw [hLn] at h
        omega
      have HLn := Lib.hid hLn
      clear hv0 hLn HK HSL hsl htl hlb
      go_wp2
      change Code.wp _ _ _ _ (World.alloc wr _)
      generalize World.alloc wr _ = W1 at HF ⊢
      obtain ⟨⟨e0, e1, e2, e3⟩, -, -, -⟩ := HF.out W1 (Below.refl _ _)
      go_region_with
        (first
          | (go_at_call 22
             go_loud (
             with_reducible refine ((HIt _ (HF.out _ ((Below.refl _ _).drew)).2.2.1).out).mono ?_
             rintro e w2 ⟨rfl, kk, os, hw2⟩
             have q2 : Below W1.heap.size W1 w2 := by
               rw [hw2]
               exact ((Below.refl _ _).drew).trans (below_grow W1.drew kk os)
             clear hw2
             obtain ⟨⟨a0, a1, a2, a3⟩, -, -, -⟩ := HF.out w2 q2))
          | (go_at_call 23
             go_loud (
             with_reducible refine ((HTx _ (HF.out _ q2).2.2.1).out).mono ?_
             rintro e w3 ⟨rfl, hb3⟩
             have q3 : Below W1.heap.size W1 w3 := q2.trans (hb3.mono q2.size)
             clear hb3))
          | (go_at_call 21
             go_loud (
             refine ((HWS _ _ (HIB.out _ (HF.out _ q3).2.2.2) (Nat.le_trans (Nat.add_le_add hbl2 hLs) (by decide)) (HF.out _ q3).2.1).out).mono ?_
             rintro e w4 ⟨rfl, hbu, hb4⟩
             have q4 : Below w.heap.size w w4 := (HF.out _ q3).2.2.1.trans hb4)))
      all_goals
        have I4 : Hid (Lib.IsBuilder 46 5 w.heap.size w.heap.size (Lib.byteCells (showL (l.take (k + 1)))) w4) := Lib.hid (by
          rw [HNx.out, byteCells_app, ← HLn.out]
          exact .inr hbu)
        have hs4 : w.heap.size < w4.heap.size := Nat.lt_of_lt_of_le hszr (Nat.le_trans (HF.out _ q3).2.2.2.size hb4.size)
        have Q4 := Lib.hid q4
        clear hbu hb4 q4
        go_wp2
        go_roundw
        case rel => exact ⟨k + 1, by go_num, by omega, Q4.out, I4, hs4⟩
        case measure => simp [intOf]; omega
    · obtain rfl : k = l.length := by omega
      have hlt2 : ¬ (l.length : Int) < (l.length : Int) := by omega
      rw [List.take_length] at HI
      have HS := Lib.hid (Tryd.Builder_String_any w.heap.size w.heap.size (showL l) wr HI.out hB.size)
      clear hB HI HSL
      go_wp2_with fail
      refine (HS.out).mono ?_
      rintro e w5 ⟨rfl, hb5⟩
      go_wp2
      go_ret
      exact ⟨rfl, HB.out.trans hb5⟩
end TraceD
end Go.Proofs.YticgpfigjkgfaaaDoor
