/- Stage 3's laws: PlaneCopies, its first steps. -/
import Derived.Test.YtfjfoomlpfbmkaaPlaneTab
namespace Go.Proofs.Ytfjfoomlpfbmkaa
open Go.RowKit Go.Shelf Go.Sort
set_option maxRecDepth 100000
set_option maxRecDepth 100000

theorem into_any (n m : Int) (hm : 0 < m) (hm9 : m ≤ 9) (w : World) : Calls Try.prog 6 #[.int .i64 n, .int .i64 m] w fun e w' => ∃ k : Nat, e = .returned (.int .i64 k) ∧ (k : Int) < m ∧ w' = w := by
  obtain ⟨r, hr⟩ : ∃ r, n.tmod m = r := ⟨_, rfl⟩
  have hb : r.natAbs < m.natAbs := by rw [← hr, Int.natAbs_tmod]; exact Nat.mod_lt _ (by omega)
  have h0 : (m == 0) = false := beq_eq_false_iff_ne.2 (by omega)
  have h0' : ¬ m = 0 := by omega
  by_cases hneg : r < 0
  · obtain ⟨k, hk⟩ : ∃ k : Nat, r + m = k := ⟨(r + m).toNat, by omega⟩
    have hw : IntKind.i64.wrap (r + m) = (k : Int) := by rw [hk, IntKind.wrap_i64]; omega
    have hkm : (k : Int) < m := by omega
    clear hk hb
    go_enter Try.func6, Try.ntmps6
    go_wp2
    go_ret
    exact ⟨k, rfl, hkm, rfl⟩
  · obtain ⟨k, rfl⟩ : ∃ k : Nat, r = k := ⟨r.toNat, by omega⟩
    have hkm : (k : Int) < m := by omega
    clear hb
    go_enter Try.func6, Try.ntmps6
    go_wp2
    go_ret
    exact ⟨k, rfl, hkm, rfl⟩
end Go.Proofs.Ytfjfoomlpfbmkaa
