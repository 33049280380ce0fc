/- strings.Builder: copyCheck, WriteString, walked. -/
import Derived.Test.YtfoppgbbjmoofaaTA
import Derived.Shelf.Strings.Builder1
namespace Go.Proofs.Ytfoppgbbjmoofaa
open Go.RowKit Go.Maps

theorem bldByte : (Try.prog.info? 5).map (fun i => (i.zero, i.size, i.bytes)) = some (some (.int .u8 0), 1, 1) := by kernel_rfl
end Go.Proofs.Ytfoppgbbjmoofaa
