/- Proved: what the listed variables of stage 19's rows give: the package's two errors lie in memory. No condition. -/
import Derived.Test.YtfppmlnafalneaaDoorJbArg
import Derived.Test.YtfppmlnafalneaaDoorRows
import Derived.Stop.LaidTwo
import Derived.MakeChecks
import Derived.FnData
namespace Go.Proofs.YtfppmlnafalneaaDoor
open Go.ChangeShapes Go.WideShapes Go.ChangeAt Go.RowKit

theorem jb_star : "*" ++ "errors.errorString" = "*errors.errorString" := by decide
theorem jb_row (u : TypeId) (h : Tryd.prog.typeName? 3 u = some "*errors.errorString") : u = 89 :=
  typeName_ptr_named (nm := "errors.errorString") (by rw [jb_star]; kernel_rfl) (by kernel_rfl) (by decide) u (by rw [jb_star]; exact h)
theorem jb_laid {w : World} (h : laidMetH Tryd.prog Rows.jobsNoneRow.laid w) : ∃ a0 a1, Er w w.heap.size a0 a1 := by
  rw [MakeChecks.laidMetH_plain _ _ _ (by kernel_rfl)] at h
  obtain ⟨a0, a1, s0, s1, c0, c1, t0, t1, hv0, hv1, hc0, hs0, hz0, hc1, hs1, hz1, hne, hb0, hb1⟩ := laid_sentinels2 (n0 := "lightship/jobs.errClosed") (n1 := "lightship/jobs.errFull") (g0 := 0) (g1 := 1) (ti := 55) (tp := 89) (te := 113) (ts := 9) h (by kernel_rfl) (by kernel_rfl) (by kernel_rfl) (by kernel_rfl) Tryd.underlying55 jb_row Tryd.underlying89 Tryd.underlying113 rfl rfl Tryd.underlying9 (by kernel_rfl) (by kernel_rfl)
  have hg0 : w.cell? ⟨0, 0, none⟩ = some (erv a0) := by simpa using World.var?_cell (n := "lightship/jobs.errClosed") (by kernel_rfl) hv0 0
  have hg1 : w.cell? ⟨1, 0, none⟩ = some (erv a1) := by simpa using World.var?_cell (n := "lightship/jobs.errFull") (by kernel_rfl) hv1 0
  exact ⟨a0, a1, hg0, hg1, hne, ⟨_, _, hb0⟩, ⟨_, _, hb1⟩, World.block_lt_of_cell? w _ hg0, World.block_lt_of_cell? w _ hg1, (Array.getElem?_eq_some_iff.1 hb0).1, (Array.getElem?_eq_some_iff.1 hb1).1⟩
end Go.Proofs.YtfppmlnafalneaaDoor
