/- Contracts of the laws' helpers over slices of texts: szStringS, toStringS, eqStringS. -/
import Derived.Test.YtmdmjhnjhelccaaBase
namespace Go.Proofs.Ytmdmjhnjhelccaa
open Go.RowKit
set_option maxHeartbeats 400000
set_option linter.unusedSimpArgs false
set_option linter.unusedVariables false

theorem str_info : (Try.prog.info? 9).map (fun i => (i.zero, i.size, i.bytes)) = some (some (.string ⟨#[]⟩), 1, 16) := by kernel_rfl

end Go.Proofs.Ytmdmjhnjhelccaa
