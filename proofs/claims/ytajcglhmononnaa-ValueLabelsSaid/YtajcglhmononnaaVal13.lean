/- The document's own operator. -/
import Derived.Test.YtajcglhmononnaaVal11
import Derived.Test.YtajcglhmononnaaVal12
import Derived.Test.YtajcglhmononnaaVal14
namespace Go.Proofs.Ytajcglhmononnaa
open Go.RowKit ObjM
namespace ValD
open NumM LabelM LabelD NumD

theorem raw_any (op : Int) (a b : V) (hs : a.s.size ≤ 1000) (hs2 : b.s.size ≤ 1000) (w : World) :
    Calls Try.prog 29 #[.int .i64 op, a.agg, b.agg] w fun e w' => e = .returned (.tuple #[(ansR op a b).2.1.agg, .string (ansR op a b).2.2]) ∧ Below w.heap.size w w' := by
  rcases way op a b with ⟨h, hk, hk2, hd, e⟩ | ⟨h, hk, hk2, hd, e⟩ | ⟨h, hk, e⟩ | ⟨rfl, hk, hk2, e⟩ | ⟨rfl, hk, e⟩ | ⟨h, hk, hk2, e⟩ | ⟨h, hk, e⟩ | ⟨rfl, e⟩ | ⟨h, e⟩
  all_goals rw [e]
  · exact raw_ok op a b h hk hk2 hd w
  · exact raw_div op a b h hk hk2 hd w
  · exact raw_bad op a b h hk w
  · exact raw_cat a b hk hk2 hs hs2 w
  · exact raw_catBad a b hk w
  · exact raw_cmp op a b h hk hk2 w
  · exact raw_cmpBad op a b h hk w
  · exact raw_same a b w
  · exact raw_none op a b h w

set_option maxRecDepth 100000 in
set_option maxHeartbeats 2000000 in
theorem refvDo_any (op : Int) (a b : V) (ha : a.l < M64) (hb : b.l < M64) (hs : a.s.size ≤ 1000) (hs2 : b.s.size ≤ 1000) (w : World) :
    Calls Try.prog 11 #[.int .i64 op, a.agg, b.agg] w fun e w' => e = .returned (.tuple #[(doA op a b).agg, .string (doW op a b)]) ∧ Below w.heap.size w w' := by
  have HR := fun W => Lib.hid (raw_any op a b hs hs2 W)
  have HJ := fun W => Lib.hid (refJoin_any a.l b.l ha hb W)
  have hz := ans_l op a b
  unfold doA doW
  obtain ⟨⟨rk, rn, rs, rl⟩, hr⟩ : ∃ r, (ansR op a b).2.1 = r := ⟨_, rfl⟩
  obtain ⟨why, hy⟩ : ∃ r, (ansR op a b).2.2 = r := ⟨_, rfl⟩
  simp only [hr, hy] at HR hz ⊢
  clear hr hy
  subst hz
  obtain ⟨ak, an, sa, al⟩ := a
  obtain ⟨bk, bn, sb, bl⟩ := b
  simp only [V.with, Nat.zero_or] at HJ ⊢
  clear ha hb hs hs2
  obtain ⟨x, hx⟩ : ∃ x, al ||| bl = x := ⟨_, rfl⟩
  simp only [hx] at HJ ⊢
  clear hx
  simp only [V.agg] at HR ⊢
  have HX := fun (W w1 : World) (hb : Below W.heap.size W w1) => bcell' hb
  go_enter Try.func11, Try.ntmps11
  go_wp2_with fail
  with_reducible refine ((HR _).out).mono ?_
  rintro e w1 ⟨rfl, hb1⟩
  obtain ⟨hc, hf⟩ := bcell' hb1
  have hB : Below w.heap.size w w1 := alloc3.trans (hb1.mono (by simp; omega))
  have hz := hb1.size
  obtain ⟨c0, c1, c2, c3, f0, f1, f2, f3, -⟩ := res3 hb1
  clear hb1 HX
  simp at hz
  have p3 := hc w.heap.size 3 (by simp; try omega)
  have q3 := hc (w.heap.size + 1) 3 (by simp; try omega)
  have l0 : w.heap.size < w1.heap.size := by omega
  have l1 : w.heap.size + 1 < w1.heap.size := by omega
  have l2 : w.heap.size + 1 + 1 < w1.heap.size := by omega
  clear hc hf hz
  rw [show (((w.alloc _).alloc _).alloc _).cell? ⟨w.heap.size, 3, none⟩ = some (.int .u64 (al : Int)) by simp [go_sem]] at p3
  rw [show (((w.alloc _).alloc _).alloc _).cell? ⟨w.heap.size + 1, 3, none⟩ = some (.int .u64 (bl : Int)) by simp [go_sem]] at q3
  go_wp2_with fail
  with_reducible refine ((HJ _).out).mono ?_
  rintro e w2 ⟨rfl, hw⟩
  subst hw
  go_wp2
  refine bodyPost_ret (v := .tuple #[.agg #[.int .i64 rk, .int .i64 rn, .string rs, .int .u64 (x : Int)], .string why]) (by simp [results, Try.results11, go_sem, l2, c0, c1, c2, c3, World.cell?_alloc_lt]) rfl ⟨rfl, ?_⟩
  exact (set4 hB (by omega) _ _ _ _).alloc (set4 hB (by omega) _ _ _ _).size _
end ValD
end Go.Proofs.Ytajcglhmononnaa
