/- The walk of LabelJoins. -/
import Derived.Test.YtlmckgghickahaaDoorLabelTabs
import Derived.Test.YtlmckgghickahaaDoorShellSlice
namespace Go.Proofs.YtlmckgghickahaaDoor
open Go.RowKit Shell
namespace LabelD
open LabelM

def natsI (ns : List Nat) : List Int := ns.map fun (n : Nat) => (n : Int)
theorem natsI_len (ns : List Nat) : (natsI ns).length = ns.length := by simp [natsI]
theorem nats_of {zs : List Int} (h : ∀ n ∈ zs, (Lit.int .u64 n).wf = true) : ∃ ns : List Nat, zs = natsI ns ∧ ∀ n ∈ ns, n < M64 := by
  induction zs with
  | nil => exact ⟨[], rfl, by simp⟩
  | cons z r ih =>
    obtain ⟨ns, rfl, hn⟩ := ih fun n hn => h n (List.mem_cons_of_mem _ hn)
    have hz := bounds_u64 (h z (List.mem_cons_self))
    refine ⟨z.toNat :: ns, by simp [natsI]; omega, ?_⟩
    intro n hn'
    rcases List.mem_cons.1 hn' with rfl | hn'
    · unfold M64; omega
    · exact hn n hn'
theorem join_at {ns : List Nat} (hn : ∀ x ∈ ns, x < M64) {v : Value} (W : World) (h : IntsAt W .u64 v (natsI ns)) :
    Calls Tryd.prog 12 #[v] W fun e w' => e = .returned (.int .u64 (joinL ns)) ∧ W = w' := by
  have hl := h.len
  rw [natsI_len] at hl
  rcases h with ⟨rfl, h0⟩ | ⟨b, o, cap, rfl, _, _, _, hc⟩
  · have : ns = [] := by simpa [natsI] using h0
    subst this
    exact join_none W
  · rw [natsI_len]
    refine join_any b o cap ns hn hl W fun j x hx => hc j _ ?_
    unfold natsI
    rw [List.getElem?_map, hx]
    rfl

set_option maxRecDepth 100000 in
set_option maxHeartbeats 2000000 in
theorem labelJoins_any (ns : List Nat) (hn : ∀ x ∈ ns, x < M64) (a b : Nat) (ha : a < M64) (hb : b < M64) (v : Value) (w : World) (hv : IntsAt w .u64 v (natsI ns)) (hT : Tabs w) :
    Calls Tryd.prog 3 #[v, .int .u64 a, .int .u64 b] w fun e w' => e = .returned (.bool true) ∧ Below w.heap.size w w' := by
  have HA := Lib.hid (awake_any w hT)
  have hl := hv.len
  rw [natsI_len] at hl
  have HV := Lib.hid (fun (W : World) (hb : Below w.heap.size w W) => hv.below hb (Nat.le_refl _))
  have HN := Lib.hid hn
  clear hT hn
  rcases hv with ⟨rfl, h0⟩ | ⟨bk, o, cap, rfl, h1, h2, h3, -⟩
  · have : ns = [] := by simpa [natsI] using h0
    subst this
    clear h0
    have HJ := Lib.hid (fun (W : World) (hb : Below w.heap.size w W) => join_at HN.out W (HV.out W hb))
    go_enter Tryd.func3, Tryd.ntmps3
    go_wp2_with fail
    refine (HA.out).mono ?_
    rintro e w1 ⟨rfl, hb1⟩
    have HJ1 := Lib.hid (HJ.out w1 hb1)
    have H2 := Lib.hid (join2 a b ha hb w1)
    have H3 := fun W => Lib.hid (refJoin_any a b ha hb W)
    have H4 := fun W => Lib.hid (meet_any a b ha hb W)
    have H5 := fun W => Lib.hid (refMeet_any a b ha hb W)
    go_wp2
    go_loop [7, 17] (fun av i => i = .int .i64 0 ∧ av = .int .u64 0) (fun _ _ => 0)
    case atStart => exact ⟨rfl, rfl⟩
    case round =>
      obtain ⟨rfl, rfl⟩ := hrel
      go_wp2_with fail
      refine (HJ1.out).mono ?_
      rintro e w2 ⟨rfl, rfl⟩
      go_wp2_with fail
      refine (H2.out).mono ?_
      rintro e w2 ⟨rfl, hw2⟩
      subst hw2
      go_wp2_with fail
      refine ((H3 _).out).mono ?_
      rintro e w2 ⟨rfl, hw2⟩
      subst hw2
      go_wp2_with fail
      refine ((H4 _).out).mono ?_
      rintro e w2 ⟨rfl, hw2⟩
      subst hw2
      go_wp2_with fail
      refine ((H5 _).out).mono ?_
      rintro e w2 ⟨rfl, hw2⟩
      subst hw2
      go_wp2
      go_ret
      exact ⟨by simp, hb1.trans ((Below.refl _ _).alloc hb1.size _)⟩
  · rw [natsI_len] at h1 ⊢
    by_cases hlen : 200 < ns.length
    · go_enter Tryd.func3, Tryd.ntmps3
      go_wp2_with fail
      refine (HA.out).mono ?_
      rintro e w1 ⟨rfl, hb1⟩
      go_wp2
      go_ret
      exact ⟨rfl, hb1⟩
    · have hlen' : ns.length ≤ 200 := by omega
      clear hlen
      have HJ := Lib.hid (fun (W : World) (hb : Below w.heap.size w W) => join_at HN.out W (HV.out W hb))
      simp only [natsI_len] at HJ HV
      go_enter Tryd.func3, Tryd.ntmps3
      go_wp2_with fail
      refine (HA.out).mono ?_
      rintro e w1 ⟨rfl, hb1⟩
      have HJ1 := Lib.hid (HJ.out w1 hb1)
      have HC : Hid (∀ (j : Nat) (h : j < ns.length), w1.cell? ⟨bk, o + j, none⟩ = some (.int .u64 (ns[j] : Nat))) := Lib.hid (by
        intro j hj
        rcases HV.out w1 hb1 with ⟨h, _⟩ | ⟨_, _, _, h, _, _, _, hc⟩
        · cases h
        · injection h with h4 h5 h6
          injection h4 with h4
          injection h4 with h7 h8 h9
          subst h7 h8
          exact hc j _ (by unfold natsI; rw [List.getElem?_map, List.getElem?_eq_getElem hj]; rfl))
      have H2 := Lib.hid (join2 a b ha hb w1)
      have H3 := fun W => Lib.hid (refJoin_any a b ha hb W)
      have H4 := fun W => Lib.hid (meet_any a b ha hb W)
      have H5 := fun W => Lib.hid (refMeet_any a b ha hb W)
      have hlt64 : ∀ k, joinL (ns.take k) < M64 := fun k => joinL_lt _ fun x hx => HN.out x (List.mem_of_mem_take hx)
      have HJL := Lib.hid hlt64
      clear hlt64 HJ HV
      go_wp2
      go_loop [7, 17] (fun av i => ∃ k : Nat, i = .int .i64 k ∧ k ≤ ns.length ∧ av = .int .u64 ((joinL (ns.take k) : Nat) : Int)) (fun _ i => ns.length - (intOf i).toNat)
      case atStart => exact ⟨0, rfl, by omega, rfl⟩
      case round =>
        obtain ⟨k, rfl, hk, rfl⟩ := hrel
        by_cases hlt : k < ns.length
        · have hcell := HC.out k hlt
          have hx64 := HN.out ns[k] (List.getElem_mem hlt)
          have HS : Hid (joinL (ns.take (k + 1)) = joinL (ns.take k) ||| ns[k]) := Lib.hid (by rw [List.take_succ_eq_append_getElem hlt, joinL_snoc])
          have hA := HJL.out k
          obtain ⟨A, hAe⟩ : ∃ A, joinL (ns.take k) = A := ⟨_, rfl⟩
          obtain ⟨x, hx⟩ : ∃ x, ns[k] = x := ⟨_, rfl⟩
          rw [hAe] at HS hA ⊢
          rw [hx] at HS hx64 hcell
          clear hAe hx
          have H1 := fun W => Lib.hid (refJoin_any A x hA hx64 W)
          go_wp2_with fail
          refine ((H1 _).out).mono ?_
          rintro e w2 ⟨rfl, rfl⟩
          go_wp2
          go_round
          case rel => exact ⟨k + 1, by go_num, by omega, by rw [HS.out]⟩
          case measure => simp [intOf]; omega
        · obtain rfl : k = ns.length := by omega
          rw [List.take_length] at *
          go_wp2_with fail
          refine (HJ1.out).mono ?_
          rintro e w2 ⟨rfl, rfl⟩
          go_wp2_with fail
          refine (H2.out).mono ?_
          rintro e w2 ⟨rfl, hw2⟩
          subst hw2
          go_wp2_with fail
          refine ((H3 _).out).mono ?_
          rintro e w2 ⟨rfl, hw2⟩
          subst hw2
          go_wp2_with fail
          refine ((H4 _).out).mono ?_
          rintro e w2 ⟨rfl, hw2⟩
          subst hw2
          go_wp2_with fail
          refine ((H5 _).out).mono ?_
          rintro e w2 ⟨rfl, hw2⟩
          subst hw2
          go_wp2
          go_ret
          exact ⟨by simp, hb1.trans ((Below.refl _ _).alloc hb1.size _)⟩
theorem labelJoins_u (v : Value) (zs : List Int) (a b : Int) (w : World) (hv : IntsAt w .u64 v zs) (hz : ∀ n ∈ zs, (Lit.int .u64 n).wf = true) (ha : 0 ≤ a ∧ a ≤ 18446744073709551615) (hb : 0 ≤ b ∧ b ≤ 18446744073709551615) (hT : Tabs w) :
    Calls Tryd.prog 3 #[v, .int .u64 a, .int .u64 b] w fun e w' => e = .returned (.bool true) ∧ Below w.heap.size w w' := by
  obtain ⟨n, rfl⟩ : ∃ n : Nat, a = n := ⟨a.toNat, by omega⟩
  obtain ⟨m, rfl⟩ : ∃ m : Nat, b = m := ⟨b.toNat, by omega⟩
  obtain ⟨ns, rfl, hn⟩ := nats_of hz
  exact labelJoins_any ns hn n m (by unfold M64; omega) (by unfold M64; omega) v w hv hT
end LabelD
end Go.Proofs.YtlmckgghickahaaDoor
