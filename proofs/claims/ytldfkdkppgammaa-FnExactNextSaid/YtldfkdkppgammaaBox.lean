/-
  A struct of four cells in memory.
-/
import Derived.Test.YtldfkdkppgammaaLawV
import Derived.Test.YtldfkdkppgammaaHeap
namespace Go.Proofs.Ytldfkdkppgammaa
open Go.RowKit

theorem szI_good {ls : List (List UInt8)} (h : szI 1048576 ls ≠ -1) : Sm ls := by
  unfold szI at h
  split at h
  · rename_i h'
    exact ⟨by omega, fun l hl => by have := smL_mem l hl; omega⟩
  · exact absurd rfl h
theorem szI_good2 {ls : List (List UInt8)} {z : Int} (hz : z ≤ 1048576) (h : szI z ls ≠ -1) : Sm ls := by
  unfold szI at h
  split at h
  · rename_i h'
    exact ⟨by omega, fun l hl => by have := smL_mem l hl; omega⟩
  · exact absurd rfl h
end Go.Proofs.Ytldfkdkppgammaa
