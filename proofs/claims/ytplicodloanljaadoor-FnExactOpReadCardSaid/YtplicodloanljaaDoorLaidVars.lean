/- What the rows list of the variables on which the reading turns, as facts on cells. -/
import Derived.Test.YtplicodloanljaaDoorLaid
import Derived.Test.YtplicodloanljaaDoorOpReadI
import Derived.Stop.LaidErr
namespace Go.Proofs.YtplicodloanljaaDoor
open Go.RowKit
set_option maxRecDepth 100000

theorem starErr : "*" ++ "errors.errorString" = "*errors.errorString" := by decide

theorem rowErr (u : TypeId) (h : Tryd.prog.typeName? 3 u = some "*errors.errorString") : u = 135 :=
  typeName_ptr_named (nm := "errors.errorString") (by rw [starErr]; kernel_rfl) (by kernel_rfl) (by decide) u (by rw [starErr]; exact h)

theorem gSyn : Tryd.prog.globalNamed "strconv.ErrSyntax" = some 3 := by kernel_rfl

theorem gRan : Tryd.prog.globalNamed "strconv.ErrRange" = some 4 := by kernel_rfl

theorem gMal : Tryd.prog.globalNamed "loop.example/garner/impl.errMalformed" = some 0 := by kernel_rfl

theorem vars_of_laid {W : World} (hL : laidMetH Tryd.prog Rows.fnOpBackRow.laid W) (hsh : W.ShapedOpen Tryd.prog) : ∃ p, Vars p W := by
  rw [MakeChecks.laidMetH_plain _ _ _ (by kernel_rfl)] at hL
  have h4 := hL.tail.tail.tail.tail
  obtain ⟨a1, _, v1, _⟩ := laid_sentinel h4 gRan (by kernel_rfl) Tryd.underlying49 rowErr Tryd.underlying135 Tryd.underlying137 rfl rfl Tryd.underlying9 (by kernel_rfl) (by kernel_rfl)
  obtain ⟨a2, _, v2, _⟩ := laid_sentinel h4.tail gSyn (by kernel_rfl) Tryd.underlying49 rowErr Tryd.underlying135 Tryd.underlying137 rfl rfl Tryd.underlying9 (by kernel_rfl) (by kernel_rfl)
  obtain ⟨a3, _, v3, _⟩ := laid_sentinel h4.tail.tail gMal (by kernel_rfl) Tryd.underlying49 rowErr Tryd.underlying135 Tryd.underlying137 rfl rfl Tryd.underlying9 (by kernel_rfl) (by kernel_rfl)
  have c1 := World.var?_cell gRan v1 0
  have c2 := World.var?_cell gSyn v2 0
  have c3 := World.var?_cell gMal v3 0
  exact ⟨a3, Tryd.laysM146.s1_3 W hsh, ⟨_, _, by simpa using c2⟩, ⟨_, _, by simpa using c1⟩, by simpa [errV] using c3⟩

end Go.Proofs.YtplicodloanljaaDoor
