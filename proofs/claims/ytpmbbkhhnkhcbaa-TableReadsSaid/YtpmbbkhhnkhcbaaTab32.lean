/- Whether calls are few enough. -/
import Derived.Test.YtpmbbkhhnkhcbaaTab31
namespace Go.Proofs.Ytpmbbkhhnkhcbaa
open Go.RowKit ObjM Go.Maps
namespace TabD
open LabelM LabelD ValD

def costA (la : List ActT) : Nat := (la.map fun a => 10 + a.st.length).sum
theorem costA_snoc (la : List ActT) (a : ActT) : costA (la ++ [a]) = costA la + (10 + a.st.length) := by simp [costA]
def FewT (w : World) (la : List ActT) (e : Ending) (w' : World) : Prop := ∃ b, e = .returned (.bool b) ∧ (b = true → costA la ≤ 2000) ∧ Below w.heap.size w w'
set_option maxRecDepth 100000 in
set_option maxHeartbeats 4000000 in
theorem few_any (la : List ActT) (v : Value) (w : World) (h : ActsT w v la) (hok : ∀ a ∈ la, ActOk a) : Calls Try.prog 9 #[v] w (FewT w la) := by
  obtain ⟨av, cap, rfl, hlen, hrow⟩ := h
  have HR := Lib.hid hrow
  have HOk := Lib.hid hok
  clear hrow hok
  go_enter Try.func9, Try.ntmps9
  go_wp2
  go_loopw [3, 8] (fun nv i wr => ∃ k c : Nat, nv = .int .i64 c ∧ i = .int .i64 k ∧ k ≤ la.length ∧ c ≤ 2000 ∧ Hid (costA (la.take k) = c) ∧ Hid (Below w.heap.size w wr)) (fun _ i _ => la.length - (intOf i).toNat)
  case atStart => exact ⟨0, 0, rfl, rfl, Nat.zero_le _, Nat.zero_le _, Lib.hid rfl, Lib.hid (Below.refl _ _)⟩
  case round =>
    obtain ⟨k, c, rfl, rfl, hk, hc, HC, HB⟩ := hrel
    by_cases hlt : k < la.length
    · obtain ⟨a, hak⟩ : ∃ a, la[k]? = some a := ⟨_, List.getElem?_eq_getElem hlt⟩
      obtain ⟨b, o, rfl, hbl, sv, hsv, hcs⟩ : ∃ b o, av = some ⟨b, o, none⟩ ∧ b < wr.heap.size ∧ ∃ sv, StsAt w sv a.st ∧ ∀ (j : Nat) u, (a.cells sv)[j]? = some u → wr.cell? ⟨b, o + k * 12 + j, none⟩ = some u := by
        rcases HR.out with h9 | ⟨b, o, h1, h2, h3⟩
        · rw [h9] at hlt
          simp at hlt
        · obtain ⟨sv, q1, q2⟩ := h3 k a hak
          exact ⟨b, o, h1, Nat.lt_of_lt_of_le h2 HB.out.size, sv, q1, fun j u hu => (HB.out.cell (p := ⟨b, _, none⟩) h2).trans (q2 j u hu)⟩
      have hst := (HOk.out a (List.mem_of_getElem? hak)).2.2.2.2.2
      have HCk : Hid (costA (la.take (k + 1)) = c + (10 + a.st.length)) := Lib.hid (by rw [List.take_add_one, hak]; show costA (la.take k ++ [a]) = _; rw [costA_snoc, HC.out])
      obtain ⟨asl, caps, rfl, -⟩ := hsv
      clear hak
      obtain ⟨d, c0, ⟨kk, kn, ks, kl⟩, ⟨xk, xn, xs, xl⟩, nn, st⟩ := a
      simp only at hst HCk hcs
      have c0' := hcs 0 _ rfl
      have c1 := hcs 1 _ rfl
      have c2 := hcs 2 _ rfl
      have c3 := hcs 3 _ rfl
      have c4 := hcs 4 _ rfl
      have c5 := hcs 5 _ rfl
      have c6 := hcs 6 _ rfl
      have c7 := hcs 7 _ rfl
      have c8 := hcs 8 _ rfl
      have c9 := hcs 9 _ rfl
      have c10 := hcs 10 _ rfl
      have c11 := hcs 11 _ rfl
      simp only [Nat.add_zero] at c0'
      have HB2 := Lib.hid (HB.out.alloc HB.out.size (.cells #[.int .i64 d, .int .u64 (c0 : Int), .int .i64 kk, .int .i64 kn, .string ks, .int .u64 (kl : Int), .int .i64 xk, .int .i64 xn, .string xs, .int .u64 (xl : Int), .int .i64 nn, .slice asl st.length caps] 37))
      clear hcs
      by_cases h1 : (200 : Int) < ks.size
      · go_wp2
        refine bodyPost_ret (v := .bool false) (by simp [results, Try.results9, go_sem]) rfl ⟨_, rfl, by simp, HB2.out⟩
      · by_cases h2 : (200 : Int) < xs.size
        · go_wp2
          refine bodyPost_ret (v := .bool false) (by simp [results, Try.results9, go_sem]) rfl ⟨_, rfl, by simp, HB2.out⟩
        · by_cases h3 : (2000 : Int) < (c : Int) + (10 + st.length)
          · go_wp2
            refine bodyPost_ret (v := .bool false) (by simp [results, Try.results9, go_sem]) rfl ⟨_, rfl, by simp, HB2.out⟩
          · go_wp2
            go_roundw
            case rel => exact ⟨k + 1, c + (10 + st.length), by go_num, by go_num, by omega, by omega, HCk, HB2⟩
            case measure => simp [intOf]; omega
    · have : k = la.length := by omega
      subst this
      have hcc := HC.out
      rw [List.take_length] at hcc
      have HCC := Lib.hid hcc
      clear hcc
      go_wp2
      go_ret
      exact ⟨true, rfl, fun _ => by rw [HCC.out]; exact hc, HB.out⟩
end TabD
end Go.Proofs.Ytpmbbkhhnkhcbaa
