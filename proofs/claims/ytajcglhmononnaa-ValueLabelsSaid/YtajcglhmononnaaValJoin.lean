/- Labels in a slice, joined. -/
import Derived.Test.YtajcglhmononnaaVal
import Derived.Test.YtajcglhmononnaaShellSlice
namespace Go.Proofs.Ytajcglhmononnaa
open Go.RowKit Shell
namespace ValD
open LabelM LabelD

def natsI (ns : List Nat) : List Int := ns.map fun (n : Nat) => (n : Int)
theorem natsI_len (ns : List Nat) : (natsI ns).length = ns.length := by simp [natsI]
theorem nats_of {zs : List Int} (h : ∀ n ∈ zs, (Lit.int .u64 n).wf = true) : ∃ ns : List Nat, zs = natsI ns ∧ ∀ n ∈ ns, n < M64 := by
  induction zs with
  | nil => exact ⟨[], rfl, by simp⟩
  | cons z r ih =>
    obtain ⟨ns, rfl, hn⟩ := ih fun n hn => h n (List.mem_cons_of_mem _ hn)
    have hz := bounds_u64 (h z (List.mem_cons_self))
    refine ⟨z.toNat :: ns, by simp [natsI]; omega, ?_⟩
    intro n hn'
    rcases List.mem_cons.1 hn' with rfl | hn'
    · unfold M64; omega
    · exact hn n hn'
theorem join_at {ns : List Nat} (hn : ∀ x ∈ ns, x < M64) {v : Value} (W : World) (h : IntsAt W .u64 v (natsI ns)) :
    Calls Try.prog 25 #[v] W fun e w' => e = .returned (.int .u64 (joinL ns)) ∧ W = w' := by
  have hl := h.len
  rw [natsI_len] at hl
  rcases h with ⟨rfl, h0⟩ | ⟨b, o, cap, rfl, _, _, _, hc⟩
  · have : ns = [] := by simpa [natsI] using h0
    subst this
    exact join_none W
  · rw [natsI_len]
    refine join_any b o cap ns hn hl W fun j x hx => hc j _ ?_
    unfold natsI
    rw [List.getElem?_map, hx]
    rfl
theorem slice_of {ns : List Nat} {v : Value} {W : World} (h : IntsAt W .u64 v (natsI ns)) : ∃ av cw, v = .slice av ns.length cw := by
  rcases h with ⟨rfl, h0⟩ | ⟨b, o, cap, rfl, _, _, _, hc⟩
  · have : ns = [] := by simpa [natsI] using h0
    subst this
    exact ⟨none, 0, rfl⟩
  · rw [natsI_len]
    exact ⟨_, _, rfl⟩
theorem cell_of {ns : List Nat} {av : Option Addr} {cw : Nat} {W : World} (h : IntsAt W .u64 (.slice av ns.length cw) (natsI ns)) (k : Nat) (hk : k < ns.length) : ∃ b o, av = some ⟨b, o, none⟩ ∧ W.cell? ⟨b, o + k, none⟩ = some (.int .u64 (ns[k] : Nat)) := by
  rcases h with ⟨h, h0⟩ | ⟨b, o, cap, h, _, _, _, hc⟩
  · have : ns = [] := by simpa [natsI] using h0
    subst this
    simp at hk
  · injection h with h4 h5 h6
    exact ⟨b, o, h4, hc k _ (by unfold natsI; rw [List.getElem?_map, List.getElem?_eq_getElem hk]; rfl)⟩
end ValD
end Go.Proofs.Ytajcglhmononnaa
