/- Names of stamps noted, and taken back. -/
import Derived.Test.YtpmbbkhhnkhcbaaTab21
import Derived.LoopTactic
namespace Go.Proofs.Ytpmbbkhhnkhcbaa
open Go.RowKit ObjM Go.Maps
namespace TabD
open LabelM LabelD ValD

def upd (f : List UInt8 → Option Nat) (k : List UInt8) (n : Nat) : List UInt8 → Option Nat := fun x => if x = k then some n else f x
def dels (f : List UInt8 → Option Nat) (ks : List (List UInt8)) : List UInt8 → Option Nat := fun x => if x ∈ ks then none else f x
theorem nmap_yes (W : World) : Sem.run Try.prog (binOp BinOp.eql 64 (.map none) (.map none)) W = .ok (.bool true) W := by kernel_rfl
theorem nmap_no (b : Nat) (W : World) : Sem.run Try.prog (binOp BinOp.eql 64 (.map (some b)) (.map none)) W = .ok (.bool false) W := by kernel_rfl
theorem put_name {w : World} {B b N : Nat} {f : List UInt8 → Option Nat} (h : NamedOk w B (some b) N f) (hN : N < 1000000) (s : ByteArray) (hs : s.size ≤ 140737488355328) (n : Nat) (hn : n ≤ 1000000) :
    ∃ w', (Instr.mapUpdate 64 (.map (some b)) (.string s) (.int .i64 (n : Int))).run Try.prog w = .ok () w' ∧ NamedOk w' B (some b) (N + 1) (upd f (key8 s) n) ∧ w.mapTurned w' b := by
  have hkl := key_str s hs
  obtain ⟨h0, D, hD, hq⟩ := h
  obtain ⟨w', hrun, hD', hm⟩ := hD.store keyedStr Try.underlying64 (by unfold maxLen; omega) hkl (plainElem_int Try.underlying3 (wf_i64 (n := (n : Int)) ⟨by omega, by omega⟩))
  refine ⟨w', hrun, ⟨h0, _, hD', fun k => ?_⟩, hm⟩
  have hmap := hD.isMap
  have hkk := keyedStr.key hkl
  unfold upd
  by_cases e : k = key8 s
  · subst e
    simp only [if_true]
    exact ⟨Maps.has_put_same hmap hkk _, Maps.atKey_put_same hmap hkk _ _⟩
  · have hne : Lit.string k ≠ Lit.string (key8 s) := fun h => e (by injection h)
    rw [Maps.has_put_other hne, Maps.atKey_put_other hne, (hq k).1, (hq k).2]
    simp [e]
theorem drop_name {w : World} {B b N : Nat} {f : List UInt8 → Option Nat} (h : NamedOk w B (some b) N f) (s : ByteArray) (hs : s.size ≤ 140737488355328) (ks : List (List UInt8)) (g : List UInt8 → Option Nat) (hf : f = dels g ks) (ty : TypeId) :
    ∃ w', (Builtin.delete_ #[64, 9] ty #[.map (some b), .string s]).run Try.prog w = .ok (.tuple #[]) w' ∧ NamedOk w' B (some b) N (dels g (ks ++ [key8 s])) ∧ w.mapTurned w' b := by
  have hkl := key_str s hs
  obtain ⟨h0, D, hD, hq⟩ := h
  obtain ⟨w', hrun, hD', hm⟩ := hD.drop keyedStr Try.underlying64 hkl ty
  refine ⟨w', hrun, ⟨h0, _, hD', fun k => ?_⟩, hm⟩
  have hq' := hq k
  rw [hf] at hq'
  unfold dels at hq' ⊢
  by_cases e : k = key8 s
  · subst e
    rw [Maps.has_del_same, Maps.atKey_del_same]
    simp
  · have hne : Lit.string k ≠ Lit.string (key8 s) := fun h => e (by injection h)
    rw [Maps.has_del_other hne, Maps.atKey_del_other hne, hq'.1, hq'.2]
    simp [e]
def NameIs (w : World) (B T N : Nat) (a b c d : Value) (nm : Option Nat) (f : List UInt8 → Option Nat) (e : Ending) (w' : World) : Prop :=
  e = .returned (.tuple #[]) ∧ ∃ nm', Has w' T 66 [a, b, c, d, .map nm'] ∧ NamedOk w' B nm' (N + 1) f ∧ Keeps (T :: nm.toList) w w' ∧ (∀ x, nm' = some x → nm = some x ∨ w.heap.size ≤ x)
set_option maxRecDepth 100000 in
set_option maxHeartbeats 2000000 in
theorem name_more (B T N b : Nat) (a1 a2 a3 a4 : Value) (f : List UInt8 → Option Nat) (s : ByteArray) (hs : s.size ≤ 140737488355328) (n : Nat) (hn : n ≤ 1000000) (hN : N < 1000000) (w : World) (hT : Has w T 66 [a1, a2, a3, a4, .map (some b)]) (h : NamedOk w B (some b) N f) :
    Calls Try.prog 40 #[.pointer (some ⟨T, 0, none⟩), .string s, .int .i64 (n : Int)] w (NameIs w B T N a1 a2 a3 a4 (some b) (upd f (key8 s) n)) := by
  obtain ⟨w9, hup, hN9, hm9⟩ := put_name h hN s hs n hn
  have hg := hm9.grown
  have HE : Hid (NameIs w B T N a1 a2 a3 a4 (some b) (upd f (key8 s) n) (.returned (.tuple #[])) w9) := Lib.hid ⟨rfl, some b, hT.keeps (Keeps.grown hg) (by simpa using (h.ne hT).symm), hN9, (Keeps.grown hg).mono (by simp), fun x hx => .inl hx⟩
  have h4 := hT.cell 4
  have hl := hT.lt
  simp only [List.getElem?_cons_zero, List.getElem?_cons_succ] at h4
  have hno := nmap_no b
  clear hT h hN9 hm9 hg
  go_enter Try.func40, Try.ntmps40
  go_wp2
  go_end0
  exact HE.out
set_option maxRecDepth 100000 in
set_option maxHeartbeats 2000000 in
theorem name_first (B T N : Nat) (a1 a2 a3 a4 : Value) (f : List UInt8 → Option Nat) (s : ByteArray) (hs : s.size ≤ 140737488355328) (n : Nat) (hn : n ≤ 1000000) (hN : N < 1000000) (w : World) (hB : B ≤ w.heap.size) (hT : Has w T 66 [a1, a2, a3, a4, .map none]) (h : NamedOk w B none N f) :
    Calls Try.prog 40 #[.pointer (some ⟨T, 0, none⟩), .string s, .int .i64 (n : Int)] w (NameIs w B T N a1 a2 a3 a4 none (upd f (key8 s) n)) := by
  have hsz : (w.setCell ⟨T, 4, none⟩ (.map (some w.heap.size))).heap.size = w.heap.size := by simp [World.setCell]
  have h1 : NamedOk ((w.setCell ⟨T, 4, none⟩ (.map (some w.heap.size))).alloc (.map #[] 0)) B (some w.heap.size) N f := by
    refine ⟨hB, .map [], ?_, fun k => ?_⟩
    · have := (World.ownsMap_made (H := Unit) (w.setCell ⟨T, 4, none⟩ (.map (some w.heap.size))) Try.prog 9 (plainElem Try.prog 3)).mono (Nat.zero_le N)
      rw [hsz] at this
      exact this
    · rw [h k]
      exact ⟨rfl, rfl⟩
  have hT1 : Has ((w.setCell ⟨T, 4, none⟩ (.map (some w.heap.size))).alloc (.map #[] 0)) T 66 [a1, a2, a3, a4, .map (some w.heap.size)] := (hT.set 4 (.map (some w.heap.size))).keepsT ((KeepsT.refl [] _).alloc (.map #[] 0)) (by simp)
  have hK1 : Keeps [T] w ((w.setCell ⟨T, 4, none⟩ (.map (some w.heap.size))).alloc (.map #[] 0)) := (Keeps.set w T 4 (.map (some w.heap.size))).trans (Keeps.alloc [] _ (.map #[] 0)) (by simp)
  obtain ⟨w9, hup, hN9, hm9⟩ := put_name h1 hN s hs n hn
  have hg := hm9.grown
  have HE : Hid (NameIs w B T N a1 a2 a3 a4 none (upd f (key8 s) n) (.returned (.tuple #[])) w9) := Lib.hid ⟨rfl, some w.heap.size, hT1.keeps (Keeps.grown hg) (by simpa using (h1.ne hT1).symm), hN9, (hK1.trans (Keeps.grown hg) (by simp)).mono (by simp), fun x hx => .inr (by simp at hx; omega)⟩
  have h4 := hT.cell 4
  have f4 := hT.frozen 4
  have hl := hT.lt
  have e4 := hT1.cell 4
  have hl1 := hT1.lt
  simp only [List.getElem?_cons_zero, List.getElem?_cons_succ] at h4 e4
  have hno := nmap_yes
  have hmm := @run_makeMap Try.prog
  clear hT h hN9 hm9 hg h1 hT1 hK1 hsz
  go_enter Try.func40, Try.ntmps40
  go_wp2
  go_end0
  exact HE.out
def ForgetIs (w : World) (B N : Nat) (nm : Option Nat) (f : List UInt8 → Option Nat) (e : Ending) (w' : World) : Prop :=
  e = .returned (.tuple #[]) ∧ NamedOk w' B nm N f ∧ Keeps nm.toList w w'
def FInv (w : World) (B N : Nat) (nm : Option Nat) (f : List UInt8 → Option Nat) (ns : List St) (k : Nat) (wr : World) : Prop :=
  NamedOk wr B nm N (dels f ((ns.take k).map fun s => key8 s.1)) ∧ Keeps nm.toList w wr
set_option maxRecDepth 100000 in
set_option maxHeartbeats 2000000 in
theorem forget_any (B T N : Nat) (nm : Option Nat) (a1 a2 a3 a4 : Value) (f : List UInt8 → Option Nat) (ns : List St) (hns : ∀ s ∈ ns, StOk s) (hlen : ns.length ≤ 1000000) (av : Option Addr) (cp : Nat) (w : World)
    (hT : Has w T 66 [a1, a2, a3, a4, .map nm]) (h : NamedOk w B nm N f)
    (hrow : ns = [] ∨ ∃ g o cs, av = some ⟨g, o, none⟩ ∧ Has w g 44 cs ∧ ∀ i s, ns[i]? = some s → cs[o + i * 2]? = some (.string s.1) ∧ cs[o + i * 2 + 1]? = some (.int .i64 s.2)) :
    Calls Try.prog 39 #[.pointer (some ⟨T, 0, none⟩), .slice av ns.length cp] w (ForgetIs w B N nm (dels f (ns.map fun s => key8 s.1))) := by
  have H0 : Hid (FInv w B N nm f ns 0 w) := Lib.hid ⟨h.ext (fun k => by simp [dels]), Keeps.refl _ _⟩
  have HT := Lib.hid hT
  have HR := Lib.hid hrow
  have hne : ∀ x ∈ nm.toList, ¬ ∃ t cs, Has w x t cs := by
    intro x hx
    have e : nm = some x := by simpa using hx
    subst e
    rintro ⟨t, cs, hc⟩
    exact h.ne hc rfl
  have HNE := Lib.hid hne
  have HNS := Lib.hid hns
  clear h hrow hne hT hns
  go_enter Try.func39, Try.ntmps39
  go_wp2
  go_loopw [8] (fun i wr => ∃ k : Nat, i = .int .i64 k ∧ k ≤ ns.length ∧ FInv w B N nm f ns k wr) (fun i _ => ns.length - (intOf i).toNat)
  case atStart => exact ⟨0, rfl, Nat.zero_le _, H0.out⟩
  case round =>
    obtain ⟨k, rfl, hk, hinv⟩ := hrel
    have HI := Lib.hid hinv
    clear hinv
    by_cases hlt : k < ns.length
    · obtain ⟨s, hsk⟩ : ∃ s, ns[k]? = some s := ⟨_, List.getElem?_eq_getElem hlt⟩
      obtain ⟨g, o, cs, rfl, hg, hcs⟩ : ∃ g o cs, av = some ⟨g, o, none⟩ ∧ Has wr g 44 cs ∧ (cs[o + k * 2]? = some (.string s.1) ∧ cs[o + k * 2 + 1]? = some (.int .i64 s.2)) := by
        rcases HR.out with h9 | ⟨g, o, cs, h1, h2, h3⟩
        · rw [h9] at hlt
          simp at hlt
        · exact ⟨g, o, cs, h1, h2.keeps HI.out.2 (fun hm => HNE.out g hm ⟨_, _, h2⟩), h3 k s hsk⟩
      have hT := HT.out.keeps HI.out.2 (fun hm => HNE.out T hm ⟨_, _, HT.out⟩)
      have g0 := (hg.cell (o + k * 2)).trans hcs.1
      have g1 := (hg.cell (o + k * 2 + 1)).trans hcs.2
      have hlg := hg.lt
      have t4 := hT.cell 4
      have hlT := hT.lt
      simp only [List.getElem?_cons_zero, List.getElem?_cons_succ] at t4
      have HG := Lib.hid hg
      clear hg hcs hT
      have hsz : s.1.size ≤ 140737488355328 := (HNS.out s (List.mem_of_getElem? hsk)).1
      have htk : (ns.take (k + 1)).map (fun s => key8 s.1) = (ns.take k).map (fun s => key8 s.1) ++ [key8 s.1] := by
        rw [List.take_add_one, hsk]
        simp
      have hb0 := Has.new wr 44 [.string s.1, .int .i64 s.2]
      have b0 := hb0.cell 0
      have hlb := hb0.lt
      simp only [List.getElem?_cons_zero] at b0
      obtain ⟨w9, hdel, hinv9⟩ : ∃ w9, (Builtin.delete_ #[64, 9] 0 #[.map nm, .string s.1]).run Try.prog ((wr.alloc (.cells #[.string s.1, .int .i64 s.2] 44)).drew) = .ok (.tuple #[]) w9 ∧ FInv w B N nm f ns (k + 1) w9 := by
        have hka : Keeps nm.toList w ((wr.alloc (.cells #[.string s.1, .int .i64 s.2] 44)).drew) := (HI.out.2.trans (Keeps.alloc [] wr _) (by simp)).trans (Keeps.drew [] _) (by simp)
        have hna : NamedOk ((wr.alloc (.cells #[.string s.1, .int .i64 s.2] 44)).drew) B nm N (dels f ((ns.take k).map fun s => key8 s.1)) := HI.out.1.keeps ((Keeps.alloc [] wr _).trans (Keeps.drew [] _) (by simp)) (by simp)
        cases nm with
        | none =>
          refine ⟨_, Maps.drop_nil keyedStr Try.underlying64 (key_str s.1 hsz) _, ?_, hka⟩
          intro x
          have := hna x
          rw [htk]
          unfold dels at this ⊢
          by_cases hx : x ∈ (ns.take k).map (fun s => key8 s.1)
          · rw [if_pos (List.mem_append_left _ hx)]
          · rw [if_neg hx] at this
            split
            · rfl
            · exact this
        | some b =>
          obtain ⟨w9, h1, h2, h3⟩ := drop_name hna s.1 hsz _ f rfl _
          refine ⟨w9, h1, ?_, hka.trans (Keeps.grown h3.grown) (by simp)⟩
          rw [htk]
          exact h2
      have H9 := Lib.hid hinv9
      clear hinv9 htk hsz hb0
      go_wp2
      refine wp_region_still_tail 6 (by kernel_rfl) (by kernel_rfl) ?_
      simp only [List.take_succ_cons, List.take_zero, List.drop_succ_cons, List.drop_zero]
      change wpStill _ _ (World.drew _) (fun a' => wpList _ _ _ _ a' (World.drew _)) _ _
      have hds : (wr.alloc (.cells #[.string s.1, .int .i64 s.2] 44)).drew.heap.size = wr.heap.size + 1 := by simp
      have t4' : (wr.alloc (.cells #[.string s.1, .int .i64 s.2] 44)).drew.cell? ⟨T, 4, none⟩ = some (.map nm) := by
        have := (HT.out.keeps HI.out.2 (fun hm => HNE.out T hm ⟨_, _, HT.out⟩)).keeps (Keeps.alloc [] wr (.cells #[.string s.1, .int .i64 s.2] 44)) (by simp)
        exact this.cell 4
      have b0' : (wr.alloc (.cells #[.string s.1, .int .i64 s.2] 44)).drew.cell? ⟨wr.heap.size, 0, none⟩ = some (.string s.1) := b0
      clear t4 b0
      generalize World.drew (World.alloc wr _) = W8 at *
      repeat still_step
      refine wpStill_nil ?_
      go_wp2
      go_roundw
      case rel => exact ⟨k + 1, by go_num, by omega, H9.out⟩
      case measure => simp [intOf]; omega
    · have : k = ns.length := by omega
      subst this
      go_wp2
      go_end0
      refine ⟨rfl, ?_, HI.out.2⟩
      have := HI.out.1
      rwa [List.take_length] at this
end TabD
end Go.Proofs.Ytpmbbkhhnkhcbaa
