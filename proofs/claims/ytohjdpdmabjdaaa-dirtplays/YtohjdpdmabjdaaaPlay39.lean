/-
  The great test of DirtPlays, taken out.
-/
import Derived.Test.YtohjdpdmabjdaaaPlayA
import Derived.Test.YtohjdpdmabjdaaaReadsR
namespace Go.Proofs.Ytohjdpdmabjdaaa
open Go.ChangeShapes Go.WideShapes Go.ChangeAt Go.RowKit
attribute [local go_sem ↓] Go.wp_at_zero Go.wp_at_succ

noncomputable def pl39 : Code := ((Try.f3.body.bind (findRegion 39)).getD .skip)
end Go.Proofs.Ytohjdpdmabjdaaa
