/- Stage 3's laws: is. -/
import Derived.Test.YtbebnjeamlmclaaGreatPlaneLaw1
namespace Go.Proofs.YtbebnjeamlmclaaGreat
open Go.RowKit Go.Shelf Go.Sort
set_option maxRecDepth 100000
set_option maxRecDepth 100000

theorem is_true {a b : Nat} {x y : Int} (ha : Fl a x) (hb : Fl b y) (w : World) :
    Calls Tryz.prog 21 #[.complex .f64 a b, .agg #[.int .i64 x, .int .i64 y]] w fun e w' => e = .returned (.bool true) ∧ RowKit.Below w.heap.size w w' := by
  have o1 := ord_eq ha (fl_conv x (fl_lt ha))
  have o2 := ord_eq hb (fl_conv y (fl_lt hb))
  clear ha hb
  go_enter Tryz.func21, Tryz.ntmps21
  go_wp2
  go_ret
  exact ⟨rfl, (RowKit.Below.refl _ _).alloc (Nat.le_refl _) _⟩

end Go.Proofs.YtbebnjeamlmclaaGreat
