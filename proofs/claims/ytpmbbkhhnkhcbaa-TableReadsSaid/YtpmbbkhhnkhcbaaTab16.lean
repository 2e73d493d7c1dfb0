/- The document's Put: what is refused. -/
import Derived.Test.YtpmbbkhhnkhcbaaTab15
namespace Go.Proofs.Ytpmbbkhhnkhcbaa
open Go.RowKit ObjM Go.Maps
namespace TabD
open LabelM LabelD ValD

set_option maxRecDepth 100000 in
set_option maxHeartbeats 1000000 in
theorem rput_nokey (R : Nat) (c0 : Nat) (key x : V) (hk : keyB key = false) (w : World) : Calls Try.prog 27 #[.pointer (some ⟨R, 0, none⟩), .int .u64 (c0 : Int), key.agg, x.agg] w (PutOut w 41) := by
  have HK := fun W => Lib.hid (refkey_any key W)
  simp only [hk] at HK
  clear hk
  obtain ⟨vk, vn, vs, vl⟩ := key
  obtain ⟨xk, xn, xs, xl⟩ := x
  simp only [V.agg] at HK ⊢
  have HA := Lib.hid (((Below.refl w.heap.size w).alloc (Nat.le_refl _) (.cells #[.int .i64 vk, .int .i64 vn, .string vs, .int .u64 (vl : Int)] 35)).alloc (by simp) (.cells #[.int .i64 xk, .int .i64 xn, .string xs, .int .u64 (xl : Int)] 35))
  go_enter Try.func27, Try.ntmps27
  go_wp2_with fail
  with_reducible refine ((HK _).out).mono ?_
  rintro e w1 ⟨rfl, hb1⟩
  have HB := Lib.hid (HA.out.trans (hb1.mono (by simp; omega)))
  clear hb1
  go_wp2
  exact bodyPost_ret (v := .int .i64 41) (by simp [results, Try.results27, go_sem]) rfl ⟨rfl, HB.out⟩

end TabD
end Go.Proofs.Ytpmbbkhhnkhcbaa
