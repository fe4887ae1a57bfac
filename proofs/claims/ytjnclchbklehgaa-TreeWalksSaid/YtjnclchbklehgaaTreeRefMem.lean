/- The document's nodes in memory. -/
import Derived.Test.YtjnclchbklehgaaTreeBox
namespace Go.Proofs.Ytjnclchbklehgaa
open Go.RowKit TreeMath

theorem info_rnode : (Try.prog.info? 29).map (fun i => (i.zero, i.size, i.bytes)) = some (some (.agg #[.int .i64 0, .string ⟨#[]⟩, .string ⟨#[]⟩, .int .i64 0, .slice none 0 0]), 5, 72) := by kernel_rfl
set_option maxRecDepth 100000 in
theorem size_rnode : ∀ w : World, (sizeOf 29).run Try.prog w = .ok 5 w := fun _ => rfl
end Go.Proofs.Ytjnclchbklehgaa
